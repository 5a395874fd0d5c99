/- All bytes of a partition, page by page: what the call returns. Conditions: numbers that a machine holds. -/
import Derived.Lib.AppendStr
import Derived.Lib.AppendZeros
import Derived.Test.YtedhefidfepclaaSpg
namespace Go.Proofs.Ytedhefidfepclaa
open Go.RowKit Go.Maps
set_option linter.unusedVariables false
set_option linter.unusedSimpArgs false

theorem conv_own {n0 : Nat} {v : Value} {l : Bts} {w : World} (h : w.ownsRow n0 5 1 v l.length (Lib.byteCells l)) : (convert 97 9 v).run Try.prog w = .ok (.string (ofL l)) w := by
  rcases h.2 with ⟨rfl, h0⟩ | ⟨g, cap', cur, rfl, hb, hg, _⟩
  · have : l = [] := List.eq_nil_of_length_eq_zero h0
    rw [this]
    exact run_convert_bytes_nil _ 97 5 Try.underlying97 Try.underlying5 _ _ 9 Try.underlying9
  · exact run_convert_bytes_back (P := Try.prog) w 97 9 5 ⟨g, 0, none⟩ cap' l Try.underlying97 Try.underlying5 Try.underlying9 (fun j hj => by
      exact h.cells (g := g) rfl j (.int .u8 ((l[j]).toNat : Int)) (by simp [Lib.byteCells, hj]))
theorem own_below {n0 : Nat} {v : Value} {n : Nat} {xs : List Value} {a w w' : World} (hb : Below n0 a w) (hn : n0 ≤ w.heap.size) (h : w.ownsRow n0 5 1 v n xs) (hg : w.grownBy w' v.ownBlock) : Below n0 a w' :=
  hb.grown hg hn (fun k e => (h.lt k e).1)
theorem app_at {n0 : Nat} {v : Value} {l : Bts} {w : World} (h : w.ownsRow n0 5 1 v l.length (Lib.byteCells l)) (b : ByteArray) (hlen : l.length + b.size ≤ 1000000) (hn : n0 ≤ w.heap.size) :
    ∃ v' w', (Builtin.append_ #[97, 9] 97 #[v, .string b]).run Try.prog w = .ok v' w' ∧ w'.ownsRow n0 5 1 v' (l ++ b.data.toList).length (Lib.byteCells (l ++ b.data.toList)) ∧ w.grownBy w' v.ownBlock ∧ (v'.ownBlock = v.ownBlock ∨ v'.ownBlock = some w.heap.size) := by
  obtain ⟨i0, hi, hz0, hz1, hz2⟩ := info_parts Try.info5
  obtain ⟨v', w', hr, hown, hg, hnil⟩ := Lib.run_append_own_string (P := Try.prog) (w := w) n0 97 9 97 5 i0 Try.underlying97 Try.underlying9 hi hz0 hz1 hz2 v l.length _ h b (by unfold maxLen; omega) (by omega) hn
  refine ⟨v', w', hr, ?_, hg, ?_⟩
  · rw [List.length_append, Lib.byteCells_append, Array.length_toList]
    exact hown
  · have hR := h
    rcases h.2 with ⟨rfl, h0⟩ | ⟨g, cap, cur, rfl, hbg, hgg, hnc, hcm, hcs, htake⟩
    · by_cases hm : b.size = 0
      · rw [hnil.2 ⟨rfl, hm⟩]; exact .inl rfl
      · have hr2 := run_append_nil_string (P := Try.prog) w 97 9 97 5 i0 (.int .u8 0) Try.underlying97 Try.underlying9 hi hz0 b (by omega) (by omega) (by rw [hz2]; omega)
        have e := hr.symm.trans hr2
        injection e with e1 e2
        rw [e1]
        exact .inr rfl
    · by_cases hroom : l.length + b.size ≤ cap
      · have hr2 := Lib.run_append_room_string (P := Try.prog) w 97 9 97 5 i0 Try.underlying97 Try.underlying9 hi hz1 g l.length cap cur hgg b hroom (by omega)
        have e := hr.symm.trans hr2
        injection e with e1 e2
        rw [e1]
        exact .inl rfl
      · have hr2 := Lib.run_append_grow_string (P := Try.prog) w 97 9 97 5 i0 (.int .u8 0) Try.underlying97 Try.underlying9 hi hz0 ⟨g, 0, none⟩ l.length cap (Lib.byteCells l) (by rw [hz1]; simpa using hR.1) (hR.cells (g := g) rfl) b (by omega) (by omega) (by rw [hz2]; exact growslice_fits (by omega) (by omega))
        have e := hr.symm.trans hr2
        injection e with e1 e2
        rw [e1]
        exact .inr rfl
/-- a page's bytes -/
def frP (F : Nat) (B : Bts) (p : Pg) : Bts := if isF F p.1 then frameB B p.1.toNat else []
/-- the bytes of the first k pages of a table -/
def catP (F : Nat) (B : Bts) (tp : List Pg) (k : Nat) : Bts := ((tp.take k).map (frP F B)).flatten
theorem frP_len (F : Nat) (B : Bts) (p : Pg) : (frP F B p).length ≤ 256 := by
  unfold frP frameB
  split
  · rw [List.length_take]; omega
  · exact Nat.zero_le _
theorem catP_succ (F : Nat) (B : Bts) (tp : List Pg) (k : Nat) (h : k < tp.length) : catP F B tp (k + 1) = catP F B tp k ++ frP F B (tp.getD k (0, 0)) := by
  unfold catP
  rw [List.take_succ_eq_append_getElem h, List.map_append, List.flatten_append, List.getD_eq_getElem?_getD, List.getElem?_eq_getElem h]
  simp
theorem catP_len (F : Nat) (B : Bts) (tp : List Pg) : ∀ k, (catP F B tp k).length ≤ 256 * k
  | 0 => by simp [catP]
  | k + 1 => by
    by_cases h : k < tp.length
    · rw [catP_succ F B tp k h, List.length_append]
      have := catP_len F B tp k
      have := frP_len F B (tp.getD k (0, 0))
      omega
    · have e : catP F B tp (k + 1) = catP F B tp k := by unfold catP; rw [List.take_of_length_le (by omega), List.take_of_length_le (by omega)]
      have := catP_len F B tp k
      rw [e]; omega
theorem frame2_any (p g cap F : Nat) (B : Bts) (w : World) (h : IsM w p g cap F B) (f : Int) (r : Int) : ∃ E : Int,
    Calls Try.prog 49 #[.pointer (some ⟨p, 0, none⟩), .int .i64 f] w fun e w' => e = .returned (.tuple #[.string (ofL (frP F B (f, r))), .int .i64 E]) ∧ w = w' := by
  have k := frame_any p g cap F B w h f
  by_cases c : isF F f
  · rw [if_pos c] at k
    refine ⟨0, ?_⟩
    rw [show frP F B (f, r) = frameB B f.toNat from if_pos c]
    exact k
  · rw [if_neg c] at k
    refine ⟨83, ?_⟩
    rw [show frP F B (f, r) = [] from if_neg c]
    exact k
set_option maxRecDepth 20000 in
set_option maxHeartbeats 4000000 in
theorem all_any (w : World) (s : SpAt) (B : Bts) (ns : List Nat) (ps : List Pg) (h : IsS w s B ns ps) (i : Nat) (hi : i < ns.length) :
    Calls Try.prog 22 #[.pointer (some ⟨s.p, 0, none⟩), .int .i64 (i : Int)] w fun e w' => e = .returned (.string (ofL (catP ps.length B (tabP ns ps i) ns[i]))) ∧ Below w.heap.size w w' := by
  obtain ⟨B0, hB0⟩ : ∃ B0, B0 = w.heap.size := ⟨_, rfl⟩
  obtain ⟨wa, hwa⟩ : ∃ wa, wa = w.alloc (.cells #[] 5) := ⟨_, rfl⟩
  have hown0 : wa.ownsRow B0 5 1 (.slice (some ⟨B0, 0, none⟩) 0 0) (catP ps.length B (tabP ns ps i) 0).length (Lib.byteCells (catP ps.length B (tabP ns ps i) 0)) := by
    refine ⟨rfl, .inr ⟨B0, 0, #[], rfl, Nat.le_refl _, by rw [hwa, hB0]; exact World.alloc_heap_new w _, Nat.le_refl _, Nat.zero_le _, rfl, rfl⟩⟩
  have hbel0 : Below B0 w wa := by rw [hwa, hB0]; exact (Below.refl _ w).alloc (Nat.le_refl _) _
  have hsz : wa.heap.size = B0 + 1 := by rw [hwa, hB0]; simp
  have ha := h.below (by rw [← hB0]; exact hbel0)
  have kt := sTable_any wa s B ns ps ha i hi
  have htl := tabP_len h.sum i hi
  have hm16 : ns[i] ≤ 16 := (h.each _ (List.getElem_mem hi)).2
  have KM : Hid (∀ W, Below B0 w W → Calls Try.prog 25 #[.pointer (some ⟨s.p, 0, none⟩)] W fun e w' => e = .returned (.pointer (some ⟨s.pm, 0, none⟩)) ∧ W = w') := Lib.hid fun W hW => smem_any W s B ns ps (h.below (by rw [← hB0]; exact hW))
  have KF : Hid (∀ W, Below B0 w W → IsM W s.pm s.g s.cap ps.length B) := Lib.hid fun W hW => (h.below (by rw [← hB0]; exact hW)).mem
  obtain ⟨m, hm⟩ : ∃ m, m = ns[i] := ⟨_, rfl⟩
  obtain ⟨tp, htp⟩ : ∃ tp, tp = tabP ns ps i := ⟨_, rfl⟩
  rw [← hm, ← htp] at kt
  rw [← hm] at hm16
  rw [← hm, ← htp] at htl
  rw [← htp] at hown0
  rw [← hm, ← htp]
  have HS := Lib.hid (And.intro hown0 (And.intro hbel0 (And.intro hsz (And.intro htl hB0))))
  have KA : Hid (∀ W, Below (w.alloc (.cells #[] 5)).heap.size (w.alloc (.cells #[] 5)) W → Below B0 w W) := Lib.hid fun W hW => by
    rw [← hwa] at hW
    exact hbel0.trans (hW.mono (by omega))
  clear hown0 hbel0 hsz ha h htl hi hm htp
  rw [hwa] at kt
  go_enter Try.func22, Try.ntmps22
  go_wp2_with (first
    | (go_at_call 21; refine kt.mono ?_; rintro e w1 ⟨g', cap', rfl, hT1, hg1, hb1⟩; have HT := Lib.hid (And.intro hT1 (And.intro hg1 hb1)); clear hT1 hg1 hb1)
    | (go_at_call 25; refine (KM.out _ (KA.out _ HT.out.2.2)).mono ?_; rintro e _ ⟨rfl, rfl⟩))
  have hT : TabV (fun k => k = g') w1 (.slice (some ⟨g', 0, none⟩) m cap') tp := HT.out.1
  have hbw : Below B0 w w1 := KA.out _ HT.out.2.2
  have hg' : B0 < g' := by
    have h1 := HT.out.2.1
    rw [← hwa] at h1
    have h2 := HS.out.2.2.1
    omega
  have hownW : w1.ownsRow B0 5 1 (.slice (some ⟨B0, 0, none⟩) 0 0) (catP ps.length B tp 0).length (Lib.byteCells (catP ps.length B tp 0)) := by
    refine ⟨rfl, .inr ⟨B0, 0, #[], rfl, Nat.le_refl _, ?_, Nat.le_refl _, Nat.zero_le _, rfl, rfl⟩⟩
    have b := HT.out.2.2
    rw [b.block B0 (by rw [hB0]; simp), hB0]
    exact World.alloc_heap_new w _
  rw [← hB0]
  clear hB0 hwa kt
  go_loopw [5, 8] (fun v i wr => ∃ j : Nat, i = .int .i64 (j : Int) ∧ j ≤ m ∧ wr.ownsRow B0 5 1 v (catP ps.length B tp j).length (Lib.byteCells (catP ps.length B tp j)) ∧ Below B0 w wr ∧ B0 ≤ wr.heap.size ∧ TabV (fun k => k = g') wr (.slice (some ⟨g', 0, none⟩) m cap') tp ∧ v.ownBlock ≠ some g') (fun _ i _ => m - (intOf i).toNat)
  case atStart => exact ⟨0, rfl, Nat.zero_le _, hownW, hbw, by have := hbw.size; have := HS.out.2.2.2.2; omega, hT, fun e => by
    have e2 : B0 = g' := by simpa [Value.ownBlock] using e
    omega⟩
  case round =>
    obtain ⟨j, rfl, hj, hown, hbel, hsz, hT, hvb⟩ := hrel
    by_cases hjk : j < m
    · have hjI : (j : Int) < (m : Int) := by omega
      obtain ⟨q', cq', e1, e2, hc⟩ := id hT
      injection e1 with e3 e4 e5
      obtain ⟨b0, o0, hq, hG0, hlt0, hcell⟩ := hc (fun e => by rw [e] at e4; simp at e4; omega)
      rw [← e3] at hq
      injection hq with hq
      injection hq with h1 h2
      subst h1 h2
      have c0 := (hcell j (by omega)).1
      rw [Nat.zero_add] at c0
      obtain ⟨E, kf⟩ := frame2_any s.pm s.g s.cap ps.length B wr (KF.out wr hbel) (tp.getD j (0, 0)).1 (tp.getD j (0, 0)).2
      have hcs := catP_succ ps.length B tp j (by omega)
      have hfl := frP_len ps.length B (tp.getD j (0, 0))
      have hcl := catP_len ps.length B tp j
      obtain ⟨fb, hfb⟩ : ∃ fb, fb = frP ps.length B (tp.getD j (0, 0)) := ⟨_, rfl⟩
      rw [show ((tp.getD j (0, 0)).1, (tp.getD j (0, 0)).2) = tp.getD j (0, 0) from rfl, ← hfb] at kf
      rw [← hfb] at hcs hfl
      obtain ⟨f, hf⟩ : ∃ f, f = (tp.getD j (0, 0)).1 := ⟨_, rfl⟩
      rw [← hf] at c0 kf
      have q1 : IntKind.i64.wrap ((j : Int) + 1) = (j : Int) + 1 := IntWalk.i64_in _ (by omega)
      obtain ⟨v', w', hr, hown', hg, hloc⟩ := app_at hown (ofL fb) (by rw [← baList]; show _ + (ofL fb).data.toList.length ≤ _; rw [show (ofL fb).data.toList = fb by simp [ofL]]; omega) hsz
      rw [show (ofL fb).data.toList = fb by simp [ofL], ← hcs] at hown'
      have hT' : TabV (fun k => k = g') w' (.slice (some ⟨g', 0, none⟩) m cap') tp := hT.of_heap hg.size fun k hk hkg => hg.block k hk (fun e => hvb (by rw [← e, hkg]))
      have hvb' : v'.ownBlock ≠ some g' := by
        rcases hloc with e | e
        · rw [e]; exact hvb
        · rw [e]; intro e; injection e with e; omega
      have HJ := Lib.hid (And.intro hown' (And.intro (own_below hbel hsz hown hg) (And.intro (Nat.le_trans hsz hg.size) (And.intro hT' hvb'))))
      clear hown hown' hg hbel hsz hT hT' hvb hvb' hloc hc hcell e2 e3 e4 e5 hlt0 hcs hfl hcl hfb hf
      go_wp2_with (first
        | (go_at_call 49; refine kf.mono ?_; rintro e _ ⟨rfl, rfl⟩)
        | (at_builtin; refine Lib.wpList_append_run _ rfl _ _ 97 9 rfl _ _ rfl rfl _ w' hr ?_))
      go_roundw
      case rel => exact ⟨j + 1, by first | rfl | (exact congrArg (Value.int .i64) (by omega)), by omega, HJ.out⟩
      case measure => simp [intOf]; omega
    · obtain rfl : j = m := by omega
      have hcv := conv_own hown
      have HB := Lib.hid hbel
      clear hown hbel hsz
      go_wp2
      go_ret
      exact ⟨rfl, by have := HB.out; rwa [HS.out.2.2.2.2] at this⟩
end Go.Proofs.Ytedhefidfepclaa
