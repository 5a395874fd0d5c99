/- What is told of two that flow alike is the same; a few pairs' closure at once. No conditions. -/
import Derived.Test.YtbkpfiagoinoiaaLat
namespace Go.Proofs.Ytbkpfiagoinoiaa
open Go.RowKit
set_option linter.unusedVariables false

/-- alike among eight -/
def Alike (F G : Flw) : Prop := ∀ i j, i < 8 → j < 8 → F i j = G i j
theorem Alike.turn {F G : Flw} (h : Alike F G) : Alike (turn F) (turn G) := fun i j hi hj => h j i hj hi
theorem Alike.symm {F G : Flw} (h : Alike F G) : Alike G F := fun i j hi hj => (h i j hi hj).symm
theorem lstI_same {F G : Flw} {n : Nat} (hn : n ≤ 8) (h : Alike F G) : lstI F n = lstI G n := by
  funext x y
  unfold lstI
  by_cases q : (0 ≤ x ∧ x < n) ∧ (0 ≤ y ∧ y < n)
  · rw [if_pos q, if_pos q, lst_same hn (by omega) (by omega) h]
  · rw [if_neg q, if_neg q]
theorem loopB_same {F G : Flw} {n : Nat} (hn : n ≤ 8) (h : Alike F G) : loopB n F = loopB n G := by
  cases hg : loopB n G with
  | false =>
      refine loopB_false fun a ha b hb => ?_
      rw [h a b (by omega) (by omega), h b a (by omega) (by omega)]
      have := loopB_none hg a ha b hb
      rw [← Bool.not_eq_true, Bool.and_eq_true]; exact this
  | true =>
    cases hf : loopB n F with
    | true => rfl
    | false =>
      have : loopB n G = false := by
        refine loopB_false fun a ha b hb => ?_
        rw [← h a b (by omega) (by omega), ← h b a (by omega) (by omega)]
        have := loopB_none hf a ha b hb
        rw [← Bool.not_eq_true, Bool.and_eq_true]; exact this
      rw [hg] at this; cases this
theorem joinB_same {F G : Flw} {n : Nat} (hn : n ≤ 8) (h : Alike F G) : joinB n F = joinB n G := by
  unfold joinB
  rw [lstI_same hn h, lstI_same hn h.turn]
theorem flB_same {F G : Flw} {n : Nat} (hn : n ≤ 8) (h : Alike F G) (x y : Int) : flB n F x y = flB n G x y := by
  unfold flB
  cases h1 : hasB n x with
  | false => rfl
  | true =>
    cases h2 : hasB n y with
    | false => rfl
    | true => rw [h _ _ (by have := hasB_lt h1; omega) (by have := hasB_lt h2; omega)]
theorem upL_same {r s : Row} (h : ∀ i, i < 8 → r i = s i) : upL r 8 = upL s 8 := by
  unfold upL
  exact List.filter_congr fun i hi => h i (by simpa using hi)
theorem lvlL_same {F G : Flw} {n : Nat} (hn : n ≤ 8) (h : Alike F G) (x : Int) : lvlL n F x = lvlL n G x := by
  unfold lvlL
  cases h1 : hasB n x with
  | false => rfl
  | true => rw [if_pos rfl, if_pos rfl]; exact upL_same fun i hi => h _ i (by have := hasB_lt h1; omega) hi
theorem isL_same {w : World} {b n : Nat} {F G : Flw} (h : Alike F G) (hl : IsL w b n F) : IsL w b n G := by
  unfold IsL latC at *
  rw [← cellsF_same h]; exact hl
theorem lat_same {n : Nat} {F G : Flw} (h : Alike F G) (L : Lat n F) : Lat n G := by
  have n8 := L.n8
  refine ⟨L.n1, L.n8, ⟨fun a ha => by rw [← h a a ha ha]; exact L.pre.refl a ha, fun a b c ha hb hc h1 h2 => ?_⟩, fun a b ha hb h1 h2 => ?_, fun a b ha hb q g => ?_, fun a b ha hb => ?_, fun a b ha hb => ?_⟩
  · rw [← h _ _ ha hb] at h1; rw [← h _ _ hb hc] at h2; rw [← h _ _ ha hc]; exact L.pre.trans a b c ha hb hc h1 h2
  · rw [← h _ _ (by omega) (by omega)] at h1 h2; exact L.anti a b ha hb h1 h2
  · rw [← h _ _ ha hb] at g; exact L.off a b ha hb q g
  · rw [← lst_same n8 ha hb h]; exact L.join a b ha hb
  · rw [← lst_same n8 ha hb h.turn]; exact L.meet a b ha hb
def plusF (F : Flw) : Flw := fun i j => decide (i = j) || F i j
def preB (R : Flw) : Bool := (List.range 8).all fun a => R a a && (List.range 8).all fun b => (List.range 8).all fun c => !(R a b && R b c) || R a c
theorem preB_pre {R : Flw} (h : preB R = true) : Pre R := by
  unfold preB at h
  rw [List.all_eq_true] at h
  refine ⟨fun a ha => ?_, fun a b c ha hb hc h1 h2 => ?_⟩
  · have := h a (by simpa using ha)
    rw [Bool.and_eq_true] at this
    exact this.1
  · have := h a (by simpa using ha)
    rw [Bool.and_eq_true, List.all_eq_true] at this
    have := this.2 b (by simpa using hb)
    rw [List.all_eq_true] at this
    have := this c (by simpa using hc)
    rw [h1, h2] at this
    simpa using this
theorem clo_plus {F : Flw} (h : preB (plusF F) = true) : Alike (clo F) (plusF F) := fun i j hi hj =>
  bool_iff (clo_le (preB_pre h) (fun x y _ _ q => by simp [plusF, q]) hi hj) (fun q => by
    simp only [plusF, Bool.or_eq_true, decide_eq_true_eq] at q
    rcases q with rfl | q
    · exact (clo_pre F).refl i hi
    · exact clo_of F i j hi q)
/-- what New says of a few pairs, reckoned -/
def newQ (n : Int) (ps : List (Int × Int)) : Int :=
  if n < 1 ∨ 8 < n ∨ 64 < ps.length then 40
  else if ps.all (okP n.toNat) = false then 41
  else if loopB n.toNat (plusF (newF ps)) = true then 42
  else if joinB n.toNat (plusF (newF ps)) = false then 43
  else 0
theorem newQ_is {n : Int} {ps : List (Int × Int)} (h : preB (plusF (newF ps)) = true) : newE n ps = newQ n ps := by
  unfold newE newQ
  by_cases h1 : n < 1 ∨ 8 < n ∨ 64 < ps.length
  · rw [if_pos h1, if_pos h1]
  · have hs := clo_plus h
    rw [if_neg h1, if_neg h1]
    unfold newG
    rw [loopB_same (by omega) hs, joinB_same (by omega) hs]
def ps1 : List (Int × Int) := [(0, 1), (0, 2), (1, 3), (2, 3), (0, 3)]
def ps3 : List (Int × Int) := [(0, 2)]
def ps4 : List (Int × Int) := [(0, 1), (1, 0)]
/-- the diamond -/
def dia : Flw := plusF (newF ps1)
theorem e1 : newE 4 ps1 = 0 := by rw [newQ_is (by decide +kernel)]; decide +kernel
theorem e2 : newE 0 [] = 40 := newE_size (by decide)
theorem e3 : newE 2 ps3 = 41 := by rw [newQ_is (by decide +kernel)]; decide +kernel
theorem e4 : newE 2 ps4 = 42 := by rw [newQ_is (by decide +kernel)]; decide +kernel
theorem e5 : newE 2 [] = 43 := by rw [newQ_is (by decide +kernel)]; decide +kernel
theorem dia_is : Alike (newG ps1) dia := clo_plus (by decide +kernel)
theorem dia_lat : Lat 4 dia := lat_same dia_is (new_lat e1)
theorem dia_join : lstI dia 4 1 2 = 3 := by decide +kernel
theorem dia_meet : lstI (turn dia) 4 1 2 = 0 := by decide +kernel
theorem dia_none : lstI dia 4 1 9 = -1 := by decide +kernel
theorem dia_top : topI (lstI dia 4) 4 = 3 := by decide +kernel
theorem dia_bottom : topI (lstI (turn dia) 4) 4 = 0 := by decide +kernel
theorem dia_flows : flB 4 dia 0 3 = true := by decide +kernel
theorem dia_not : flB 4 dia 1 2 = false := by decide +kernel
theorem dia_above : lvlL 4 dia 1 = [1, 3] := by decide +kernel
theorem dia_pairs : prsL 4 dia 4 = [(0, 1), (0, 2), (1, 3), (2, 3)] := by rw [dia_lat.prs]; decide +kernel
end Go.Proofs.Ytbkpfiagoinoiaa
