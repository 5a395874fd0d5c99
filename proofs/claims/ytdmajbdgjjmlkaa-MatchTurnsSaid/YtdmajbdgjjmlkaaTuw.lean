/- A text taken by an expression is taken from its end by the expression turned: the law's walk. Conditions: the expression lies in memory, its sets' numbers are numbers of 64 bits. -/
import Derived.Test.YtdmajbdgjjmlkaaTnp
import Derived.Test.YtdmajbdgjjmlkaaStw
import Derived.Deep.RegionLaw
namespace Go.Proofs.Ytdmajbdgjjmlkaa
open Go.RowKit
set_option linter.unusedVariables false
set_option linter.unusedSimpArgs false
theorem infoT5 : (Try.prog.info? 5).map (fun i => (i.zero, i.size, i.bytes)) = some (some (.int .u8 0), 1, 1) := by kernel_rfl
def u8V (b : UInt8) : Value := .int .u8 (b.toNat : Nat)
/-- a row of bytes of its own, from block D on -/
def Bw (D : Nat) (w : World) (v : Value) (bs : List UInt8) : Prop := w.ownsRow D 5 1 v bs.length (bs.map u8V)
theorem Bw.below {D : Nat} {w w' : World} {v : Value} {bs : List UInt8} (h : Bw D w v bs) (hb : Below w.heap.size w w') : Bw D w' v bs :=
  World.ownsRow.kept h (below_grown hb (r := none)) (by cases v.ownBlock <;> simp)
theorem Bw.push {D : Nat} {w : World} {v : Value} {bs : List UInt8} (h : Bw D w v bs) (b : UInt8) (few : bs.length ≤ 140737488351232) (hD : D ≤ w.heap.size) :
    ∃ bo cap w', (Builtin.append_ #[54, 54] 54 #[v, .slice (some ⟨w.heap.size, 0, none⟩) 1 1]).run Try.prog (w.alloc (.cells #[u8V b] 5)) = .ok (.slice bo (bs.length + 1) cap) w' ∧ Bw D w' (.slice bo (bs.length + 1) cap) (bs ++ [b]) ∧ ∀ B, B ≤ D → B ≤ w.heap.size → Below B w w' := by
  have h2 := h.below (below_new w (.cells #[u8V b] 5))
  have hx2 := heap_alloc_new w (.cells #[u8V b] 5)
  have hb2 := below_new w (.cells #[u8V b] 5)
  generalize w.alloc (.cells #[u8V b] 5) = W2 at *
  obtain ⟨i0, hi, hz0, hz1, hz2⟩ := info_parts infoT5
  obtain ⟨v', w', hr, hown, hg, -, -⟩ := run_append_own_at (P := Try.prog) (w := W2) D 54 54 5 i0 _ 1 1 Try.underlying54 hi hz0 hz1 hz2 rfl (by decide) _ _ _ h2 ⟨w.heap.size, 0, none⟩ 1 1 [u8V b] rfl (fun j u hj => by
    rw [add0, cell_of_row W2 _ j _ _ _ hx2]
    simpa using hj) (by intro u hu; simp at hu; subst hu; rfl) (by unfold maxLen; omega) (by omega) (Nat.le_trans hD hb2.size)
  obtain ⟨ao, cap, rfl⟩ := own_slice' hown
  refine ⟨ao, cap, w', hr, ?_, fun B h1 h3 => (hb2.mono h3).grown hg (Nat.le_trans h3 hb2.size) (fun k e => Nat.le_trans h1 (h2.lt k e).1)⟩
  unfold Bw
  have e : (bs ++ [b]).length = bs.length + 1 := by simp
  rw [e, List.map_append]
  exact hown
theorem Bw.text {D : Nat} {w : World} {g n cap : Nat} {bs : List UInt8} (h : Bw D w (.slice (some ⟨g, 0, none⟩) n cap) bs) (hn : bs.length = n) :
    (convert 54 9 (.slice (some ⟨g, 0, none⟩) n cap)).run Try.prog w = .ok (.string ⟨bs.toArray⟩) w := by
  have hcv := run_convert_bytes_back (P := Try.prog) w 54 9 5 ⟨g, 0, none⟩ cap bs Try.underlying54 Try.underlying5 Try.underlying9 (fun j hj => by
    have := World.ownsRow.cells h (g := g) rfl j (u8V bs[j]) (by simp [hj])
    exact this)
  rw [hn] at hcv
  exact hcv
set_option maxRecDepth 100000 in
set_option maxHeartbeats 8000000 in
theorem turns_walk (t : Rx) (sv : Value) (s : ByteArray) (w : World) (hl : LiesL (fun _ => True) w sv t.list) (hok : okR t) (hs : s.size ≤ 140737488351232)
    (TA : ∀ t : Rx, sizeR t ≠ 0 → sizeR t < 257 → ∀ (ok : Nat → Prop) (w : World) (v : Value), LiesL ok w v t.list → Calls Try.prog 27 #[t.val v] w fun e w' => (∃ bo cap, e = .returned ((turnR t).val (.slice bo t.list.length cap)) ∧ LiesL (w.heap.size ≤ ·) w' (.slice bo t.list.length cap) (turnR t).list) ∧ Below w.heap.size w w') :
    Calls Try.prog 8 #[t.val sv, .string s] w fun e w' => e = .returned (.bool true) ∧ Below w.heap.size w w' := by
  obtain ⟨ao, cap, rfl⟩ := hl.value
  obtain ⟨B, hB⟩ : ∃ B, B = w.heap.size := ⟨_, rfl⟩
  obtain ⟨M, hM⟩ : ∃ M, M = macR t := ⟨_, rfl⟩
  obtain ⟨M2, hM2⟩ : ∃ M2, M2 = macR (turnR t) := ⟨_, rfl⟩
  obtain ⟨z, hz⟩ : ∃ z : ByteArray, z = ⟨s.data.toList.reverse.toArray⟩ := ⟨_, rfl⟩
  have hzs : z.size = s.size := by rw [hz]; show (s.data.toList.reverse.toArray).size = s.size; simp
  have hzl : z.data.toList = s.data.toList.reverse := by rw [hz]
  obtain ⟨r, hr⟩ : ∃ r : Bool, r = if 256 < s.size then false else M.is s.data.toList := ⟨_, rfl⟩
  obtain ⟨n, hn⟩ : ∃ n : Int, n = if 256 < s.size then 60 else 0 := ⟨_, rfl⟩
  have ez : ∀ (M' : Mac) (y : ByteArray), (y.size = s.size) → (checkR t = 0 → M'.is y.data.toList = M.is s.data.toList) → checkR t = 0 → (if 256 < y.size then Ending.returned (.tuple #[.bool false, .int .i64 60]) else .returned (.tuple #[.bool (M'.is y.data.toList), .int .i64 0])) = .returned (.tuple #[.bool r, .int .i64 n]) := fun M' y h1 h2 h3 => by
    rw [hr, hn, h1, h2 h3]; split <;> rfl
  obtain ⟨tt, htt⟩ : ∃ tt, tt = t := ⟨_, rfl⟩
  have hl' := hl
  -- the states
  obtain ⟨P, hP⟩ : ∃ P : World → Prop, P = fun wr => Below B w wr ∧ wr.heap[B]? = some (.cells (t.cells (.slice ao t.list.length cap)) 26 (0, 0)) := ⟨_, rfl⟩
  obtain ⟨P1, hP1⟩ : ∃ P1 : Nat → World → Prop, P1 = fun p wr => P wr ∧ IsM B p M wr ∧ Mok M ∧ checkR t = 0 := ⟨_, rfl⟩
  obtain ⟨P2, hP2⟩ : ∃ P2 : Nat → Value → World → Prop, P2 = fun p v wr => P1 p wr ∧ LiesL (fun _ => True) wr v (turnR t).list := ⟨_, rfl⟩
  obtain ⟨Q, hQ⟩ : ∃ Q : Nat → Nat → World → Prop, Q = fun p q wr => P1 p wr ∧ IsM B q M2 wr ∧ Mok M2 := ⟨_, rfl⟩
  have PS : ∀ wr wr2, P wr → Below wr.heap.size wr wr2 → P wr2 := by
    rw [hP]; exact fun wr wr2 h hb => ⟨h.1.trans (hb.mono (by have := h.1.size; omega)), (hb.block _ (block_lt' h.2)).trans h.2⟩
  have P1S : ∀ p wr wr2, P1 p wr → Below wr.heap.size wr wr2 → P1 p wr2 := by
    rw [hP1]; exact fun p wr wr2 h hb => ⟨PS _ _ h.1 hb, h.2.1.of_below hb, h.2.2⟩
  have QS : ∀ p q wr wr2, Q p q wr → Below wr.heap.size wr wr2 → Q p q wr2 := by
    rw [hQ]; exact fun p q wr wr2 h hb => ⟨P1S _ _ _ h.1 hb, h.2.1.of_below hb, h.2.2⟩
  have PB : ∀ wr, P wr → Below B w wr := by rw [hP]; exact fun wr h => h.1
  have hBw : ∀ wr, P wr → B ≤ wr.heap.size := fun wr h => by have := (PB wr h).size; omega
  have P1P : ∀ p wr, P1 p wr → P wr := by rw [hP1]; exact fun p wr h => h.1
  have QP1 : ∀ p q wr, Q p q wr → P1 p wr := by rw [hQ]; exact fun p q wr h => h.1
  have W0 : Hid (P (w.alloc (.cells (t.cells (.slice ao t.list.length cap)) 26))) := Lib.hid (by rw [hP, hB]; exact ⟨below_new w _, heap_alloc_new w _⟩)
  have PBH := Lib.hid PB
  have PC : Hid (∀ wr, P wr → wr.heap[B]? = some (.cells (t.cells (.slice ao t.list.length cap)) 26 (0, 0))) := Lib.hid (by rw [hP]; exact fun wr h => h.2)
  have P1PH := Lib.hid P1P
  have QPH : Hid (∀ p q wr, Q p q wr → P wr) := Lib.hid fun p q wr h => P1P _ _ (QP1 _ _ _ h)
  have QSH := Lib.hid QS
  have K1 : Hid (∀ wr, P wr → Calls Try.prog 11 #[t.val (.slice ao t.list.length cap)] wr fun e w' => (∃ n : Int, e = .returned (.tuple #[.pointer none, .int .i64 n]) ∧ (n == 0) = false ∧ P w') ∨ (∃ p, e = .returned (.tuple #[.pointer (some ⟨p, 0, none⟩), .int .i64 0]) ∧ P1 p w')) := Lib.hid fun wr h => (new_any wr t _ (hl.stay (by rw [← hB]; exact PB wr h)) hok).mono fun e w' g => by
    obtain ⟨hb, ⟨hc, he⟩ | ⟨hc, p, he, hi, hk⟩⟩ := g
    · exact .inl ⟨_, he, by simpa using hc, PS _ _ h hb⟩
    · refine .inr ⟨p, he, ?_⟩
      rw [hP1, hM]
      exact ⟨PS _ _ h hb, hi.mono (hBw _ h), hk, hc⟩
  have KFP : Hid (∀ wr, P wr → Calls Try.prog 12 #[] wr fun e w' => e = .returned (.bool true) ∧ P w') := Lib.hid fun wr h => (fixed_any wr).mono fun e w' g => ⟨g.1, PS _ _ h g.2⟩
  have KF1 : Hid (∀ p wr, P1 p wr → Calls Try.prog 12 #[] wr fun e w' => e = .returned (.bool true) ∧ P1 p w') := Lib.hid fun p wr h => (fixed_any wr).mono fun e w' g => ⟨g.1, P1S _ _ _ h g.2⟩
  have KT : Hid (∀ p wr, P1 p wr → Calls Try.prog 27 #[t.val (.slice ao t.list.length cap)] wr fun e w' => ∃ bo cq, e = .returned ((turnR t).val (.slice bo t.list.length cq)) ∧ P2 p (.slice bo t.list.length cq) w') := Lib.hid fun p wr h => by
    have hc : checkR t = 0 := by rw [hP1] at h; exact h.2.2.2
    have hcz := check_zero.1 hc
    refine (TA t hcz.1 (by have := hcz.2; omega) _ wr _ (hl.stay (by rw [← hB]; exact PB wr (P1P _ _ h)))).mono fun e w' g => ?_
    obtain ⟨⟨bo, cq, he, hg⟩, hb⟩ := g
    refine ⟨bo, cq, he, ?_⟩
    rw [hP2]
    exact ⟨P1S _ _ _ h hb, hg.kept (Nat.le_refl _) (fun _ _ _ => rfl) (fun _ _ _ => trivial)⟩
  have K2 : Hid (∀ p v wr, P2 p v wr → Calls Try.prog 11 #[(turnR t).val v] wr fun e w' => ∃ q, e = .returned (.tuple #[.pointer (some ⟨q, 0, none⟩), .int .i64 0]) ∧ Q p q w') := Lib.hid fun p v wr h => by
    rw [hP2] at h
    obtain ⟨h1, h2⟩ := h
    have hc : checkR t = 0 := by rw [hP1] at h1; exact h1.2.2.2
    refine (new_any wr (turnR t) v h2 (turn_okR t hok)).mono fun e w' g => ?_
    obtain ⟨hb, ⟨hc2, he⟩ | ⟨hc2, q, he, hi, hk⟩⟩ := g
    · exact absurd (by rw [turn_check]; exact hc) hc2
    · refine ⟨q, he, ?_⟩
      rw [hQ, hM2]
      exact ⟨P1S _ _ _ h1 hb, hi.mono (hBw _ (P1P _ _ h1)), hk⟩
  have I1 : Hid (∀ p q wr, Q p q wr → Calls Try.prog 14 #[.pointer (some ⟨p, 0, none⟩), .string s] wr fun e w' => e = .returned (.tuple #[.bool r, .int .i64 n]) ∧ Q p q w' ∧ Hid (Below wr.heap.size wr w')) := Lib.hid fun p q wr h => by
    have h1 := QP1 _ _ _ h
    rw [hP1] at h1
    refine (is_any _ p M wr h1.2.1 h1.2.2.1 s).mono fun e w' g => ⟨?_, QS _ _ _ _ h g.2, Lib.hid g.2⟩
    have := ez M s rfl (fun _ => rfl) h1.2.2.2
    rw [← this, g.1]; split <;> rfl
  have I2 : Hid (∀ p q wr, Q p q wr → Calls Try.prog 14 #[.pointer (some ⟨q, 0, none⟩), .string z] wr fun e w' => e = .returned (.tuple #[.bool r, .int .i64 n]) ∧ Q p q w' ∧ Hid (Below wr.heap.size wr w')) := Lib.hid fun p q wr h => by
    have h1 := QP1 _ _ _ h
    rw [hP1] at h1
    have h2 := h
    rw [hQ] at h2
    refine (is_any _ q M2 wr h2.2.1 h2.2.2 z).mono fun e w' g => ⟨?_, QS _ _ _ _ h g.2, Lib.hid g.2⟩
    have := ez M2 z hzs (fun hc => by rw [hzl, hM2, hM]; exact turn_is hc s.data.toList) h1.2.2.2
    rw [← this, g.1]; split <;> rfl
  obtain ⟨r0, hr0⟩ : ∃ r0, r0 = M.is [] := ⟨_, rfl⟩
  have N1 : Hid (∀ p q wr, Q p q wr → Calls Try.prog 15 #[.pointer (some ⟨p, 0, none⟩)] wr fun e w' => e = .returned (.bool r0) ∧ Q p q w') := Lib.hid fun p q wr h => by
    have h1 := QP1 _ _ _ h
    rw [hP1] at h1
    exact (nothing_any _ p M wr h1.2.1).mono fun e w' g => ⟨by rw [hr0]; exact g.1, QS _ _ _ _ h g.2⟩
  have N2 : Hid (∀ p q wr, Q p q wr → Calls Try.prog 15 #[.pointer (some ⟨q, 0, none⟩)] wr fun e w' => e = .returned (.bool r0) ∧ Q p q w') := Lib.hid fun p q wr h => by
    have h1 := QP1 _ _ _ h
    rw [hP1] at h1
    have h2 := h
    rw [hQ] at h2
    have he : M2.is [] = M.is [] := by rw [hM2, hM]; exact turn_is h1.2.2.2 []
    exact (nothing_any _ q M2 wr h2.2.1).mono fun e w' g => ⟨by rw [hr0, ← he]; exact g.1, QS _ _ _ _ h g.2⟩
  have HZ : Hid (z = ⟨s.data.toList.reverse.toArray⟩) := Lib.hid hz
  have HS := Lib.hid hs
  have hzz : w.heap.size = B := hB.symm
  rw [← hB]
  obtain ⟨tk, tmn, tmx, t0, t1, t2, t3, ls⟩ := t
  obtain ⟨tl, htl⟩ : ∃ tl, turnR (.mk tk tmn tmx t0 t1 t2 t3 ls) = .mk tk tmn tmx t0 t1 t2 t3 tl := ⟨_, turn_list ..⟩
  rw [htl] at KT K2
  unfold Rx.val at K1 KT K2 ⊢
  dsimp only [Rx.cells, cellsX, Rx.list] at W0 PC K1 KT K2 ⊢
  have HB := Lib.hid hB
  clear hl hl' hok hM hM2 hz hzs hzl hr hn ez hr0 htt hP hP1 hP2 hQ PS P1S QS PB hBw P1P QP1 htl TA hs hB
  go_enter Try.func8, Try.ntmps8
  go_wp2_with (go_at_call 11; (with_reducible refine (K1.out _ W0.out).mono ?_); rintro e w1 (⟨n1, rfl, hn1, h1⟩ | ⟨p, rfl, h1⟩))
  · have hn2 : (n1 != 0) = true := by rw [bne, hn1]; rfl
    go_wp2_with (go_at_call 12; (with_reducible refine (KFP.out _ h1).mono ?_); rintro e w2 ⟨rfl, h2⟩)
    go_ret
    exact ⟨rfl, PBH.out _ h2⟩
  · have G : Hid (∀ wr, P wr → _) := Lib.hid (fun wr h => cells8_at (PC.out wr h))
    go_wp2_with (first
      | (go_at_call 12; (with_reducible refine (KF1.out _ _ h1).mono ?_); rintro e w2 ⟨rfl, h2⟩; obtain ⟨d0, d1, d2, d3, d4, d5, d6, d7⟩ := G.out _ (P1PH.out _ _ h2); clear h1)
      | (go_at_call 27; (with_reducible refine (KT.out _ _ h2).mono ?_); rintro e w3 ⟨bo, cq, rfl, h3⟩)
      | (go_at_call 11; (with_reducible refine (K2.out _ _ _ h3).mono ?_); rintro e w4 ⟨q, rfl, h4⟩))
    have hlen : s.data.toList.length = s.size := Array.length_toList
    obtain ⟨w5, hw5⟩ : ∃ w5, w5 = w4.alloc (.cells #[] 5) := ⟨_, rfl⟩
    obtain ⟨D, hD⟩ : ∃ D, D = w4.heap.size := ⟨_, rfl⟩
    have o5 : Bw D w5 (.slice (some ⟨D, 0, none⟩) 0 0) [] := by rw [hw5, hD]; exact World.ownsRow_made w4 #[] 0 (Nat.le_refl _) (by unfold maxLen; omega) rfl
    have b5 : Below D w4 w5 := by rw [hw5, hD]; exact below_new w4 _
    have QD : Hid (∀ wr, Below D w4 wr → Q p q wr) := Lib.hid fun wr h => QSH.out _ _ _ _ h4 (by rw [← hD]; exact h)
    have hD2 : Hid (w4.heap.size = D) := Lib.hid hD.symm
    rw [← hw5, ← hD]
    have H5 := Lib.hid (And.intro b5 o5)
    have HLEN := Lib.hid hlen
    clear h2 d0 d1 d2 d3 d4 d5 d6 d7 h3 h4 hw5 b5 o5 hlen hD
    have hsz := HS.out
    have hw64 : wrap64 ((s.size : Int) - 1) = (s.size : Int) - 1 := by unfold wrap64; omega
    rw [hw64]
    go_loopw [9, 10] (fun v i wr => ∃ (j g cq2 : Nat), j ≤ s.size ∧ v = .slice (some ⟨g, 0, none⟩) j cq2 ∧ i = .int .i64 ((s.size : Int) - 1 - (j : Nat)) ∧ Hid (Below D w4 wr ∧ Bw D wr (.slice (some ⟨g, 0, none⟩) j cq2) (s.data.toList.reverse.take j))) (fun _ i _ => (intOf i + 1).toNat)
    case atStart => exact ⟨0, _, 0, Nat.zero_le _, rfl, by rw [show ((0 : Nat) : Int) = 0 from rfl, Int.sub_zero], Lib.hid ⟨H5.out.1, by rw [List.take_zero]; exact H5.out.2⟩⟩
    case round =>
      obtain ⟨j, g, cq2, hj, rfl, rfl, HH⟩ := hrel
      by_cases hlt : j < s.size
      · obtain ⟨m, hm⟩ : ∃ m, m = s.size - 1 - j := ⟨_, rfl⟩
        have hme : (s.size : Int) - 1 - (j : Nat) = (m : Int) := by omega
        have hml : m < s.size := by omega
        have hmi : (m : Int) < (s.size : Int) := by omega
        rw [hme]
        have hrl : (s.data.toList.reverse.take j).length = j := by rw [List.length_take, List.length_reverse, HLEN.out]; omega
        have hbe : s.data.toList.reverse.take (j + 1) = s.data.toList.reverse.take j ++ [s[m]] := by
          rw [List.take_add_one, List.getElem?_reverse (by rw [HLEN.out]; exact hlt), HLEN.out, ← hm, List.getElem?_eq_getElem (by rw [HLEN.out]; exact hml)]
          rfl
        have hDs : D ≤ wr.heap.size := by have := HH.out.1.size; have := hD2.out; omega
        obtain ⟨bo2, cq3, w7, hr, o7, b7⟩ := HH.out.2.push s[m] (by rw [hrl]; omega) hDs
        rw [hrl] at hr o7
        rw [← hbe] at o7
        have b7' := HH.out.1.trans (b7 D (Nat.le_refl _) hDs)
        obtain ⟨g2, rfl⟩ : ∃ g2, bo2 = some ⟨g2, 0, none⟩ := by
          have o8 := o7
          unfold Bw at o8
          rcases o8.2 with ⟨h1, -⟩ | ⟨g', c', cur, h1, -⟩
          · cases h1
          · exact ⟨g', (Value.slice.inj h1).1⟩
        unfold u8V at hr
        have HR := Lib.hid hr
        have HE := Lib.hid (And.intro b7' o7)
        have HN := Lib.hid (And.intro hlt hm)
        clear hr o7 b7 b7' hbe hrl hm hlt hj HH hDs
        go_wp2_with (at_builtin; refine list_append_run rfl _ _ 54 rfl _ _ _ w7 rfl rfl HR.out ?_)
        exact ⟨⟨j + 1, g2, cq3, HN.out.1, rfl, by have := HN.out; congr 1; omega, HE⟩, by simp [intOf]⟩
      · have hjl : j = s.size := by omega
        subst hjl
        have hme : (s.size : Int) - 1 - (s.size : Nat) = -1 := by omega
        rw [hme]
        have hrl : s.data.toList.reverse.take s.size = s.data.toList.reverse := List.take_of_length_le (by rw [List.length_reverse, HLEN.out]; exact Nat.le_refl _)
        have CV : Hid (∀ wx, Below wr.heap.size wr wx → (convert 54 9 (.slice (some ⟨g, 0, none⟩) s.size cq2)).run Try.prog wx = .ok (.string z) wx) := Lib.hid fun wx hb => by
          have := (HH.out.2.below hb).text (by rw [hrl, List.length_reverse, HLEN.out])
          rw [hrl, ← HZ.out] at this
          exact this
        have hQ := QD.out _ HH.out.1
        clear HH hlt hj hrl hme
        go_wp2_with (first
          | (go_at_call 14; (with_reducible refine (I1.out _ _ _ hQ).mono ?_); rintro e w8 ⟨rfl, h8, hb8⟩; have hcv := CV.out _ hb8.out)
          | (go_at_call 14; (with_reducible refine (I2.out _ _ _ h8).mono ?_); rintro e w9 ⟨rfl, h9, -⟩)
          | (go_at_call 15; (with_reducible refine (N1.out _ _ _ h9).mono ?_); rintro e w10 ⟨rfl, h10⟩)
          | (go_at_call 15; (with_reducible refine (N2.out _ _ _ h10).mono ?_); rintro e w11 ⟨rfl, h11⟩))
        go_ret
        exact ⟨rfl, PBH.out _ (QPH.out _ _ _ h11)⟩
end Go.Proofs.Ytdmajbdgjjmlkaa
