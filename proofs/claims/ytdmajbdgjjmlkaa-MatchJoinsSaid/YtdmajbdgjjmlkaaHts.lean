/- All hits of a machine in a text: what the call returns; nothing that was there turns. Conditions: the machine lies in memory. -/
import Derived.Test.YtdmajbdgjjmlkaaHit
namespace Go.Proofs.Ytdmajbdgjjmlkaa
open Go.RowKit
set_option linter.unusedVariables false
set_option linter.unusedSimpArgs false

def prV (p : Nat × Nat) : List Value := [.int .i64 (p.1 : Nat), .int .i64 (p.2 : Nat)]
def prsV : List (Nat × Nat) → List Value
  | [] => []
  | p :: l => prV p ++ prsV l
theorem prsV_len : ∀ l : List (Nat × Nat), (prsV l).length = l.length * 2
  | [] => rfl
  | p :: l => by rw [prsV, List.length_append, prsV_len l, List.length_cons, show (prV p).length = 2 from rfl]; omega
theorem prsV_app : ∀ l m : List (Nat × Nat), prsV (l ++ m) = prsV l ++ prsV m
  | [], m => rfl
  | p :: l, m => by rw [List.cons_append, prsV, prsV_app l m, prsV, List.append_assoc]
theorem infoPr : (Try.prog.info? 44).map (fun i => (i.zero, i.size, i.bytes)) = some (some (.agg #[.int .i64 0, .int .i64 0]), 2, 16) := by kernel_rfl
def Mac.hitsO (M : Mac) (s : Bs) : Nat → Option (Nat × Nat) → List (Nat × Nat)
  | _, none => []
  | 0, some p => [p]
  | f + 1, some p => p :: M.hitsO s f (M.hitI s (p.2 : Nat))
def Mac.hitsL (M : Mac) (s : Bs) : List (Nat × Nat) := M.hitsO s s.length (M.hitI s 0)
theorem Mac.hitI_some {M : Mac} {s : Bs} {k : Nat} {p : Nat × Nat} (h : M.hitI s (k : Nat) = some p) : k ≤ p.1 ∧ p.1 < p.2 ∧ p.2 ≤ s.length ∧ s.length ≤ 256 := by
  unfold Mac.hitI at h
  split at h
  · cases h
  · next hc =>
    rw [Int.toNat_natCast] at h
    obtain ⟨a, b, c⟩ := M.hit_some _ _ _ h
    rw [List.length_drop] at c
    exact ⟨a, b, by omega, by omega⟩
def hA : Option (Nat × Nat) → Nat
  | none => 0
  | some p => p.1
def hB : Option (Nat × Nat) → Nat
  | none => 0
  | some p => p.2
theorem hitV_eq (r : Option (Nat × Nat)) : hitV r = .tuple #[.int .i64 (hA r : Nat), .int .i64 (hB r : Nat), .bool r.isSome] := by cases r <;> rfl
def hMeas (n : Nat) (b c : Value) : Nat := match c with
  | .bool true => n + 1 - (intOf b).toNat
  | _ => 0
set_option maxRecDepth 100000 in
set_option maxHeartbeats 4000000 in
theorem hits_any (n0 p : Nat) (M : Mac) (w : World) (h : IsM n0 p M w) (hM : Mok M) (s : ByteArray) : Calls Try.prog 21 #[.pointer (some ⟨p, 0, none⟩), .string s] w fun e w' => (∃ v, e = .returned v ∧ w'.ownsRow w.heap.size 44 2 v (M.hitsL s.data.toList).length (prsV (M.hitsL s.data.toList))) ∧ Below w.heap.size w w' := by
  have hlen : s.data.toList.length = s.size := Array.length_toList
  obtain ⟨B, hB'⟩ : ∃ B, B = w.heap.size := ⟨_, rfl⟩
  have HT := Lib.hid (fun w1 (hb : Below B w w1) i => hit_any n0 p M w1 (h.of_below (by rw [← hB']; exact hb)) hM s i)
  obtain ⟨T, hT⟩ : ∃ T, T = M.hitsL s.data.toList := ⟨_, rfl⟩
  rw [← hT, ← hB']
  unfold Mac.hitsL at hT
  rw [hlen] at hT
  have H0 := HT.out w (Below.refl _ _) 0
  have HL := Lib.hid hlen
  have hst : ∀ q, M.hitI s.data.toList 0 = some q → s.size ≤ 256 ∧ q.2 ≤ s.size ∧ s.size ≤ s.size + q.2 ∧ 0 ≤ q.1 ∧ q.1 < q.2 := fun q hq => by
    have := Mac.hitI_some (k := 0) hq
    omega
  rw [hitV_eq] at H0
  have HB0 : Hid (B = w.heap.size) := Lib.hid hB'
  generalize M.hitI s.data.toList 0 = R at *
  have HST := Lib.hid hst
  have HTT : Hid (M.hitsO s.data.toList s.size R = T) := Lib.hid hT.symm
  have H0' := Lib.hid H0
  have HT2 : Hid (∀ (k : Nat) w1, Below B w w1 → Calls Try.prog 18 #[.pointer (some ⟨p, 0, none⟩), .string s, .int .i64 (k : Nat)] w1 fun e w' => e = .returned (.tuple #[.int .i64 (hA (M.hitI s.data.toList (k : Nat)) : Nat), .int .i64 (hB (M.hitI s.data.toList (k : Nat)) : Nat), .bool (M.hitI s.data.toList (k : Nat)).isSome]) ∧ Below w1.heap.size w1 w') := Lib.hid fun k w1 hb => by
    rw [← hitV_eq]; exact HT.out w1 hb k
  clear h hM hlen hB' hT H0 hst HT
  obtain ⟨ra, hra⟩ : ∃ ra, ra = hA R := ⟨_, rfl⟩
  obtain ⟨rb, hrb⟩ : ∃ rb, rb = hB R := ⟨_, rfl⟩
  obtain ⟨rc, hrc⟩ : ∃ rc, rc = R.isSome := ⟨_, rfl⟩
  rw [← hra, ← hrb, ← hrc] at H0'
  have HR3 := Lib.hid (And.intro hra (And.intro hrb hrc))
  clear hra hrb hrc
  go_enter Try.func21, Try.ntmps21
  go_wp2_with (go_at_call 18; (with_reducible refine H0'.out.mono ?_); rintro e w1 ⟨rfl, hb1⟩)
  have bl1 : Hid (Below B w w1) := Lib.hid (by rw [HB0.out]; exact hb1)
  clear hb1
  go_loopw [5, 6, 7, 8] (fun v a b c wr => ∃ (told : List (Nat × Nat)) (r : Option (Nat × Nat)) (f ka kb : Nat) (kc : Bool), a = .int .i64 (ka : Nat) ∧ b = .int .i64 (kb : Nat) ∧ c = .bool kc ∧ (∃ ao cap, v = .slice ao told.length cap) ∧ wr.ownsRow B 44 2 v told.length (prsV told) ∧ Below B w wr ∧ Hid ((ka = hA r ∧ kb = hB r ∧ kc = r.isSome) ∧ told ++ M.hitsO s.data.toList f r = T ∧ (∀ q, r = some q → s.size ≤ 256 ∧ q.2 ≤ s.size ∧ s.size ≤ f + q.2 ∧ told.length ≤ q.1 ∧ q.1 < q.2))) (fun _ _ b c _ => hMeas s.size b c)
  case atStart => exact ⟨[], R, s.size, ra, rb, rc, rfl, rfl, rfl, ⟨none, 0, rfl⟩, World.ownsRow_nil _ _ _ _, bl1.out, Lib.hid ⟨HR3.out, HTT.out, HST.out⟩⟩
  case round =>
    obtain ⟨told, r, f, ka, kb, kc, rfl, rfl, rfl, ⟨ao, cap, rfl⟩, ho, hbl, HH⟩ := hrel
    have HO := Lib.hid ho
    have HB := Lib.hid hbl
    clear ho hbl
    cases r with
    | none =>
      obtain ⟨⟨rfl, rfl, rfl⟩, hT, -⟩ := HH.out
      have HT3 : Hid (told = T) := Lib.hid (by rw [← hT]; cases f <;> simp [Mac.hitsO])
      clear hT HH
      go_wp2
      go_ret
      exact ⟨⟨_, rfl, by rw [← HT3.out]; exact HO.out⟩, HB.out⟩
    | some q =>
      obtain ⟨⟨ea, eb, ec⟩, hT, hq⟩ := HH.out
      have ea' : ka = q.1 := ea
      have eb' : kb = q.2 := eb
      have ec' : kc = true := ec
      clear ea eb ec
      subst ea' eb' ec'
      obtain ⟨q1, q2, q3, q4, q5⟩ := hq q rfl
      obtain ⟨W2, hW2⟩ : ∃ W2, W2 = wr.alloc (.cells #[.int .i64 (q.1 : Nat), .int .i64 (q.2 : Nat)] 44) := ⟨_, rfl⟩
      have b2 : Below wr.heap.size wr W2 := by rw [hW2]; exact below_new wr _
      have hx2 : W2.heap[wr.heap.size]? = some (.cells #[.int .i64 (q.1 : Nat), .int .i64 (q.2 : Nat)] 44 (0, 0)) := by rw [hW2]; exact heap_alloc_new wr _
      have g2 : wr.grownBy W2 none := ⟨b2.os, b2.tape, b2.output, b2.size, fun i hi _ => b2.block i hi⟩
      have ho2 : W2.ownsRow B 44 2 (.slice ao told.length cap) told.length (prsV told) := HO.out.kept g2 (by cases (Value.slice ao told.length cap).ownBlock <;> simp)
      have hBs : B ≤ wr.heap.size := by have := HB.out.size; have := HB0.out; omega
      obtain ⟨i0, hi, hz0, hz1, hz2⟩ := info_parts infoPr
      obtain ⟨v', w', hr, hown, hg, -, -⟩ := run_append_own_at (P := Try.prog) (w := W2) B 40 40 44 i0 _ 2 16 Try.underlying40 hi hz0 hz1 hz2 rfl (by decide) _ _ _ ho2 ⟨wr.heap.size, 0, none⟩ 1 1 (prV q) rfl (fun j u hj => by
        rw [add0, cell_of_row W2 _ j _ _ _ hx2]
        simpa [prV] using hj) (by intro u hu; simp [prV] at hu; rcases hu with rfl | rfl <;> rfl) (by unfold maxLen; omega) (by omega) (Nat.le_trans hBs b2.size)
      have e : told.length + 1 = (told ++ [q]).length := by simp
      have e2 : prsV told ++ prV q = prsV (told ++ [q]) := by rw [prsV_app]; simp [prsV]
      rw [e, e2] at hown
      have hB9 : Below B w w' := (HB.out.trans (b2.mono hBs)).grown hg (by have := b2.size; have := HB.out.size; omega) (fun k e => (ho2.lt k e).1)
      obtain ⟨ao2, cap2, rfl⟩ := own_slice' hown
      have HOW := Lib.hid hown
      have KC := Lib.hid (HT2.out q.2 w' hB9)
      have HB9 := Lib.hid hB9
      have HR := Lib.hid hr
      rw [hW2, ← e] at HR
      have hT4 : Hid ((told ++ [q]) ++ M.hitsO s.data.toList (f - 1) (M.hitI s.data.toList (q.2 : Nat)) = T) := Lib.hid (by
        rw [← hT]
        cases f with
        | zero =>
          have hn : M.hitI s.data.toList (q.2 : Nat) = none := by
            cases hm : M.hitI s.data.toList (q.2 : Nat) with
            | none => rfl
            | some m => have := Mac.hitI_some hm; rw [HL.out] at this; omega
          rw [hn]
          simp [Mac.hitsO]
        | succ f => simp [Mac.hitsO])
      have hnext : Hid (∀ m, M.hitI s.data.toList (q.2 : Nat) = some m → s.size ≤ 256 ∧ m.2 ≤ s.size ∧ s.size ≤ f - 1 + m.2 ∧ (told ++ [q]).length ≤ m.1 ∧ m.1 < m.2) := Lib.hid fun m hm => by
        have := Mac.hitI_some hm
        rw [HL.out] at this
        rw [← e]
        omega
      have hmeas : Hid (∀ m, M.hitI s.data.toList (q.2 : Nat) = some m → q.2 < m.2) := Lib.hid fun m hm => by
        have := Mac.hitI_some hm
        omega
      generalize M.hitI s.data.toList (q.2 : Nat) = r2 at *
      obtain ⟨sa, hsa⟩ : ∃ sa, sa = hA r2 := ⟨_, rfl⟩
      obtain ⟨sb, hsb⟩ : ∃ sb, sb = hB r2 := ⟨_, rfl⟩
      obtain ⟨sc, hsc⟩ : ∃ sc, sc = r2.isSome := ⟨_, rfl⟩
      rw [← hsa, ← hsb, ← hsc] at KC
      have HS3 := Lib.hid (And.intro hsa (And.intro hsb hsc))
      have HE := Lib.hid e
      have HQ := Lib.hid (And.intro q1 (And.intro q2 (And.intro q3 (And.intro q4 q5))))
      rw [← e] at HOW
      clear hT HH hq q1 q2 q3 q4 q5 hW2 b2 hx2 g2 ho2 hBs hi hz0 hz1 hz2 hown hg e e2 hB9 hsa hsb hsc hr
      go_wp2_with (first
        | (at_builtin; refine list_append_run rfl _ _ 40 rfl _ _ _ w' rfl rfl HR.out ?_)
        | (go_at_call 18; (with_reducible refine KC.out.mono ?_); rintro e w3 ⟨rfl, hb3⟩))
      refine ⟨⟨told ++ [q], r2, f - 1, sa, sb, sc, rfl, rfl, rfl, ⟨ao2, cap2, by rw [HE.out]⟩, ?_, HB9.out.trans (hb3.mono (by have := HB9.out.size; have := HB0.out; omega)), Lib.hid ⟨HS3.out, hT4.out, hnext.out⟩⟩, ?_⟩
      · have := HOW.out.kept (below_grown hb3 (r := none)) (by cases (Value.slice ao2 (told.length + 1) cap2).ownBlock <;> simp)
        rw [← HE.out]
        exact this
      · obtain ⟨rfl, rfl, rfl⟩ := HS3.out
        have hqq := HQ.out
        cases r2 with
        | none => show (0 : Nat) < s.size + 1 - (intOf (.int .i64 (q.2 : Nat))).toNat; simp [intOf]; omega
        | some m =>
          have h1 := hmeas.out m rfl
          have h2 := hnext.out m rfl
          show s.size + 1 - (intOf (.int .i64 (m.2 : Nat))).toNat < s.size + 1 - (intOf (.int .i64 (q.2 : Nat))).toNat
          simp [intOf]
          omega
end Go.Proofs.Ytdmajbdgjjmlkaa
