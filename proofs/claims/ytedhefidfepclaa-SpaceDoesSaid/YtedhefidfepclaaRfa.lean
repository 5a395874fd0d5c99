/- The document's memory: its frames as texts; may a table be. No conditions. -/
import Derived.Test.YtedhefidfepclaaSpk
import Derived.StillTailTactics
namespace Go.Proofs.Ytedhefidfepclaa
open Go.RowKit Go.Maps
set_option linter.unusedVariables false

/-- the document's memory at p: its F frames' bytes, one behind the other, are B -/
structure IsR (w : World) (p g cap F : Nat) (B : Bts) : Prop where
  blk : w.heap[p]? = some (.cells #[.slice (some ⟨g, 0, none⟩) F cap] 94 (0, 0))
  row : ∃ cur, w.heap[g]? = some (.cells cur 9 (0, 0)) ∧ cur.size = cap ∧ ∀ j, j < F → cur[j]? = some (.string (ofL (frameB B j)))
  len : B.length = 256 * F
  le : F ≤ cap
  lo : 1 ≤ F
  hi : F ≤ 160
theorem IsR.ne {w : World} {p g cap F : Nat} {B : Bts} (h : IsR w p g cap F B) : p ≠ g := by
  obtain ⟨cur, hr, _⟩ := h.row
  have hb := h.blk
  intro e; subst e; rw [hr] at hb; cases hb
theorem IsR.of_heap {w w' : World} {p g cap F : Nat} {B : Bts} (h : IsR w p g cap F B) (e1 : w'.heap[p]? = w.heap[p]?) (e2 : w'.heap[g]? = w.heap[g]?) : IsR w' p g cap F B := by
  obtain ⟨cur, hr, h2⟩ := h.row
  exact ⟨e1.trans h.blk, ⟨cur, e2.trans hr, h2⟩, h.len, h.le, h.lo, h.hi⟩
theorem IsR.lt {w : World} {p g cap F : Nat} {B : Bts} (h : IsR w p g cap F B) : p < w.heap.size ∧ g < w.heap.size := by
  obtain ⟨cur, hr, _⟩ := h.row
  exact ⟨block_lt h.blk, block_lt hr⟩
theorem IsR.below {w w' : World} {p g cap F : Nat} {B : Bts} (h : IsR w p g cap F B) (hb : Below w.heap.size w w') : IsR w' p g cap F B :=
  h.of_heap (hb.block p h.lt.1) (hb.block g h.lt.2)
theorem IsR.ch {w w' : World} {p g cap F q : Nat} {B : Bts} (h : IsR w p g cap F B) (hc : Ch (onB q) w w') (h1 : p ≠ q) (h2 : g ≠ q) : IsR w' p g cap F B :=
  h.of_heap (hc.block p h.lt.1 h1) (hc.block g h.lt.2 h2)
theorem IsR.cell {w : World} {p g cap F : Nat} {B : Bts} (h : IsR w p g cap F B) : w.cell? ⟨p, 0, none⟩ = some (.slice (some ⟨g, 0, none⟩) F cap) := by
  rw [cell_of_row w p 0 _ _ _ h.blk]; rfl
theorem IsR.frame {w : World} {p g cap F : Nat} {B : Bts} (h : IsR w p g cap F B) (j : Nat) (hj : j < F) : w.cell? ⟨g, j, none⟩ = some (.string (ofL (frameB B j))) := by
  obtain ⟨cur, hr, _, hc⟩ := h.row
  rw [cell_of_row w g j _ _ _ hr]; exact hc j hj
theorem IsR.free {w : World} {p g cap F : Nat} {B : Bts} (h : IsR w p g cap F B) (j : Nat) : w.frozen? ⟨g, j, none⟩ = false := by
  obtain ⟨cur, hr, _, hc⟩ := h.row
  exact block_free hr
theorem frameB_len {F : Nat} {B : Bts} (h : B.length = 256 * F) {j : Nat} (hj : j < F) : (frameB B j).length = 256 := by
  unfold frameB; rw [List.length_take, List.length_drop]; omega
theorem frameB_get (B : Bts) (j i : Nat) (hi : i < 256) : (frameB B j)[i]? = B[256 * j + i]? := by
  unfold frameB; rw [List.getElem?_take, if_pos hi, List.getElem?_drop]
theorem frameB_lay {F : Nat} {B : Bts} (h : B.length = 256 * F) {j a : Nat} (hj : j < F) {s : Bts} (hs : a + s.length ≤ 256) (i : Nat) :
    frameB (lay B (256 * j + a) s) i = if i = j then lay (frameB B j) a s else frameB B i := by
  have hl := frameB_len h hj
  by_cases e : i = j
  · subst e
    rw [if_pos rfl]
    apply List.ext_getElem?
    intro k
    by_cases hk : k < 256
    · rw [frameB_get _ _ _ hk, lay_get (by omega), lay_get (by omega), frameB_get _ _ _ hk]
      by_cases c : a ≤ k ∧ k < a + s.length
      · rw [if_pos c, if_pos (by omega)]; congr 1; omega
      · rw [if_neg c, if_neg (by omega)]
    · rw [List.getElem?_eq_none (by unfold frameB; rw [List.length_take]; omega), List.getElem?_eq_none (by rw [lay_len (by omega)]; omega)]
  · rw [if_neg e]
    apply List.ext_getElem?
    intro k
    by_cases hk : k < 256
    · rw [frameB_get _ _ _ hk, lay_get (by omega), frameB_get _ _ _ hk, if_neg (by omega)]
    · rw [List.getElem?_eq_none (by unfold frameB; rw [List.length_take]; omega), List.getElem?_eq_none (by unfold frameB; rw [List.length_take]; omega)]
/-- a frame has become another text -/
theorem IsR.put {w : World} {p g cap F : Nat} {B : Bts} (h : IsR w p g cap F B) {j a : Nat} (hj : j < F) {s : Bts} (hs : a + s.length ≤ 256) :
    IsR (w.setCell ⟨g, j, none⟩ (.string (ofL (lay (frameB B j) a s)))) p g cap F (lay B (256 * j + a) s) := by
  obtain ⟨cur, hr, hz, hc⟩ := h.row
  refine ⟨(block_setCell_other h.ne).trans h.blk, ⟨_, block_setCell hr, by simpa using hz, fun i hi => ?_⟩, ?_, h.le, h.lo, h.hi⟩
  · rw [frameB_lay h.len hj hs, Array.getElem?_setIfInBounds]
    by_cases e : j = i
    · subst e
      rw [if_pos rfl, if_pos rfl, if_pos (by rw [hz]; have := h.le; omega)]
    · rw [if_neg e, if_neg (fun q => e q.symm)]; exact hc i hi
  · rw [lay_len (by rw [h.len]; omega)]; exact h.len
theorem Ch.putCh {w w0 : World} {g j : Nat} {v : Value} {F : Nat → Prop} (h : Ch F w0 w) (hF : F g) : Ch F w0 (w.setCell ⟨g, j, none⟩ v) := h.setCell hF j v
set_option maxHeartbeats 4000000 in
set_option maxRecDepth 20000 in
theorem rcheck_any (p g cap F : Nat) (B : Bts) (w : World) (h : IsR w p g cap F B) (G : Nat → Prop) (v : Value) (ps : List Pg) (ht : TabV G w v ps) :
    Calls Try.prog 64 #[.pointer (some ⟨p, 0, none⟩), v] w fun e w' => e = .returned (.int .i64 (chk F ps)) ∧ Below w.heap.size w w' := by
  obtain ⟨n, hn⟩ : ∃ n, n = ps.length := ⟨_, rfl⟩
  obtain ⟨q, cap0, rfl⟩ : ∃ q cap, v = .slice q n cap := by obtain ⟨q, cap, e, _⟩ := ht; exact ⟨_, _, by rw [hn]; exact e⟩
  by_cases a : n ≤ 16
  · have H := Lib.hid (And.intro h (And.intro ht hn))
    have hF := h.hi
    clear h ht hn
    go_enter Try.func64, Try.ntmps64
    go_wp2
    go_loopw [5] (fun i wr => ∃ k : Nat, k ≤ n ∧ i = .int .i64 (k : Int) ∧ (∀ j, j < k → nok F (ps.getD j (0, 0)) = false) ∧ Below w.heap.size w wr) (fun i _ => n - (intOf i).toNat)
    case atStart => exact ⟨0, Nat.zero_le _, rfl, fun j hj => absurd hj (by omega), Below.refl _ _⟩
    case round =>
      obtain ⟨k, hk, rfl, hno, hbw⟩ := hrel
      have HNO := Lib.hid hno
      have HBW := Lib.hid hbw
      clear hno hbw
      by_cases a0 : k < n
      · have c9 := (H.out.1.below HBW.out).cell
        have ht := H.out.2.1.below HBW.out
        obtain ⟨q', cap', e1, e2, hc⟩ := ht
        injection e1 with e3 e4 e5
        have hne : ps ≠ [] := fun e => by have := H.out.2.2; subst e; simp at this; omega
        obtain ⟨b, o, hq, hG, hlt, hcell⟩ := hc hne
        obtain ⟨c0, c1⟩ := hcell k (by rw [← H.out.2.2]; exact a0)
        rw [← e3] at hq
        subst hq
        clear hc hcell e2 e3 e4 e5 hne hlt hG
        obtain ⟨f, hf⟩ : ∃ f, f = (ps.getD k (0, 0)).1 := ⟨_, rfl⟩
        obtain ⟨r, hr⟩ : ∃ r, r = (ps.getD k (0, 0)).2 := ⟨_, rfl⟩
        have HFR : Hid (nok F (f, r) = nok F (ps.getD k (0, 0))) := by rw [hf, hr]; exact rfl
        rw [← hf] at c0
        rw [← hr] at c1
        clear hf hr
        have hbad : Hid (nok F (f, r) = true → (84 : Int) = chk F ps) := fun hx => by
          unfold chk
          rw [if_neg]
          intro q
          have := q.2 (ps.getD k (0, 0)) (by
            have hlt : k < ps.length := by rw [← H.out.2.2]; exact a0
            rw [List.getD_eq_getElem?_getD, List.getElem?_eq_getElem hlt]; exact List.getElem_mem hlt)
          rw [HFR.out] at hx
          unfold nok at hx
          exact (of_decide_eq_true hx) this
        have HAL : Hid (∀ o m, Below w.heap.size w ((wr.alloc o).drewN m)) := fun o m => below_drewN (HBW.out.alloc HBW.out.size o) m
        have hX : (wr.alloc (.cells #[.int .i64 f, .int .i64 r] 56)).heap[wr.heap.size]? = some (.cells #[.int .i64 f, .int .i64 r] 56 (0, 0)) := block_new _ _
        have HX := Lib.hid hX
        clear hX
        have d0 : (wr.alloc (.cells #[.int .i64 f, .int .i64 r] 56)).cell? ⟨wr.heap.size, 0, none⟩ = some (.int .i64 f) := by rw [cell_of_row _ _ _ _ _ _ HX.out]; rfl
        have d1 : (wr.alloc (.cells #[.int .i64 f, .int .i64 r] 56)).cell? ⟨wr.heap.size, 1, none⟩ = some (.int .i64 r) := by rw [cell_of_row _ _ _ _ _ _ HX.out]; rfl
        have d2 : (wr.alloc (.cells #[.int .i64 f, .int .i64 r] 56)).cell? ⟨p, 0, none⟩ = some (.slice (some ⟨g, 0, none⟩) F cap) := ((H.out.1.below HBW.out).below ((Below.refl _ wr).alloc (Nat.le_refl _) _)).cell
        have HNK : Hid (nok F (f, r) = false → ∀ j, j < k + 1 → nok F (ps.getD j (0, 0)) = false) := fun hgood j hj => by
          rcases Nat.lt_or_ge j k with hlt | hge
          · exact HNO.out j hlt
          · obtain rfl : j = k := by omega
            exact HFR.out.symm.trans hgood
        by_cases a1 : f < -1
        · have b1 : decide (f < -1) = true := by simp [a1]
          have e := hbad.out (nok_iff F f r true (by by_cases z : f = -1 <;> simp [z] <;> omega)).symm
          have HE := Lib.hid e
          clear e
          go_wp2
          go_quiet (fail)
          go_wp2
          go_ret
          exact ⟨ret_int HE.out, HAL.out _ _⟩
        have b1 : decide (f < -1) = false := by simp [a1]
        by_cases a2 : (F : Int) ≤ f
        · have b2 : decide ((F : Int) ≤ f) = true := by simp [a2]
          have e := hbad.out (nok_iff F f r true (by by_cases z : f = -1 <;> simp [z] <;> omega)).symm
          have HE := Lib.hid e
          clear e
          go_wp2
          go_quiet (fail)
          go_wp2
          go_ret
          exact ⟨ret_int HE.out, HAL.out _ _⟩
        have b2 : decide ((F : Int) ≤ f) = false := by simp [a2]
        by_cases a3 : r < 0
        · have b3 : decide (r < 0) = true := by simp [a3]
          have e := hbad.out (nok_iff F f r true (by by_cases z : f = -1 <;> simp [z] <;> omega)).symm
          have HE := Lib.hid e
          clear e
          go_wp2
          go_quiet (fail)
          go_wp2
          go_ret
          exact ⟨ret_int HE.out, HAL.out _ _⟩
        have b3 : decide (r < 0) = false := by simp [a3]
        by_cases a4 : 7 < r
        · have b4 : decide (7 < r) = true := by simp [a4]
          have e := hbad.out (nok_iff F f r true (by by_cases z : f = -1 <;> simp [z] <;> omega)).symm
          have HE := Lib.hid e
          clear e
          go_wp2
          go_quiet (fail)
          go_wp2
          go_ret
          exact ⟨ret_int HE.out, HAL.out _ _⟩
        have b4 : decide (7 < r) = false := by simp [a4]
        by_cases a5 : f = -1
        · have b5 : (f == -1) = true := by simp [a5]
          by_cases a6 : r = 0
          · have b6 : (r != 0) = false := by simp [a6]
            have e := HNK.out (nok_iff F f r false (by by_cases z : f = -1 <;> simp [z] <;> omega)).symm
            have HE := Lib.hid e
            clear e a5 a6
            go_wp2
            go_quiet (fail)
            go_wp2
            refine ⟨⟨k + 1, a0, rfl, HE.out, HAL.out _ _⟩, ?_⟩
            have z := a0
            simp [intOf]; omega
          · have b6 : (r != 0) = true := by simp [a6]
            have e := hbad.out (nok_iff F f r true (by by_cases z : f = -1 <;> simp [z] <;> omega)).symm
            have HE := Lib.hid e
            clear e a5 a6
            go_wp2
            go_quiet (fail)
            go_wp2
            go_ret
            exact ⟨ret_int HE.out, HAL.out _ _⟩
        · have b5 : (f == -1) = false := by simp [a5]
          have e := HNK.out (nok_iff F f r false (by by_cases z : f = -1 <;> simp [z] <;> omega)).symm
          have HE := Lib.hid e
          clear e
          go_wp2
          go_quiet (fail)
          go_wp2
          refine ⟨⟨k + 1, a0, rfl, HE.out, HAL.out _ _⟩, ?_⟩
          have z := a0
          simp [intOf]; omega
      · obtain rfl : k = n := by omega
        go_wp2
        go_ret
        refine ⟨ret_int ?_, HBW.out⟩
        unfold chk
        rw [if_pos]
        refine ⟨by rw [← H.out.2.2]; exact a, fun x hx => ?_⟩
        obtain ⟨i, hi, rfl⟩ := List.getElem_of_mem hx
        have hq := HNO.out i (by rw [H.out.2.2]; exact hi)
        rw [List.getD_eq_getElem?_getD, List.getElem?_eq_getElem hi] at hq
        unfold nok at hq
        simpa using hq
  · have ec : chk F ps = 84 := by unfold chk; rw [if_neg]; omega
    rw [ec]
    clear h ht ec hn
    go_enter Try.func64, Try.ntmps64
    go_wp2
    go_ret
    exact ⟨rfl, Below.refl _ _⟩
end Go.Proofs.Ytedhefidfepclaa
