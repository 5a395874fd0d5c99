/- The other text's lattice in memory: its blocks are apart and new; what a store in a row changes; what is made behind it changes nothing. No conditions. -/
import Derived.Test.YtbkpfiagoinoiaaRfj
namespace Go.Proofs.Ytbkpfiagoinoiaa
open Go.RowKit
set_option linter.unusedVariables false

/-- all blocks of it are apart, and lie from D on -/
structure Owns (w : World) (D L R cap : Nat) (B : Nat → Nat) (n : Nat) (F : Flw) : Prop where
  is : IsR w L R cap B n F
  low : D ≤ L ∧ D ≤ R ∧ ∀ i, i < n → D ≤ B i
  top : L < w.heap.size ∧ R < w.heap.size ∧ ∀ i, i < n → B i < w.heap.size
  lr : L ≠ R
  bl : ∀ i, i < n → B i ≠ L ∧ B i ≠ R
  inj : ∀ i j, i < n → j < n → B i = B j → i = j
  free : ∀ i j, i < n → w.frozen? ⟨B i, j, none⟩ = false
theorem IsR.below {w w' : World} {L R cap n C : Nat} {B : Nat → Nat} {F : Flw} (h : IsR w L R cap B n F) (hb : Below C w w') (hL : L < C) (hR : R < C) (hB : ∀ i, i < n → B i < C) : IsR w' L R cap B n F :=
  ⟨by rw [hb.cell (p := ⟨L, 0, none⟩) hL]; exact h.count, by rw [hb.cell (p := ⟨L, 1, none⟩) hL]; exact h.rows, fun i hi => by rw [hb.cell (p := ⟨R, i, none⟩) hR]; exact h.row i hi,
    fun i j hi hj => by rw [hb.cell (p := ⟨B i, j, none⟩) (hB i hi)]; exact h.cell i j hi hj⟩
theorem Owns.below {w w' : World} {D L R cap n : Nat} {B : Nat → Nat} {F : Flw} (h : Owns w D L R cap B n F) (hb : Below w.heap.size w w') : Owns w' D L R cap B n F :=
  ⟨h.is.below hb h.top.1 h.top.2.1 h.top.2.2, h.low, ⟨Nat.lt_of_lt_of_le h.top.1 hb.size, Nat.lt_of_lt_of_le h.top.2.1 hb.size, fun i hi => Nat.lt_of_lt_of_le (h.top.2.2 i hi) hb.size⟩, h.lr, h.bl, h.inj, fun i j hi => by rw [hb.frozen (p := ⟨B i, j, none⟩) (h.top.2.2 i hi)]; exact h.free i j hi⟩
theorem Owns.stays (D L R cap n : Nat) (B : Nat → Nat) (F : Flw) : Stays fun w => Owns w D L R cap B n F := fun w1 w2 h hb => h.below hb
/-- a store in a row -/
theorem Owns.put {w : World} {D L R cap n : Nat} {B : Nat → Nat} {F : Flw} (h : Owns w D L R cap B n F) {a c : Nat} (ha : a < n) (hc : c < n) : Owns (w.setCell ⟨B a, c, none⟩ (.bool true)) D L R cap B n (setF F a c true) := by
  have hs : (w.setCell ⟨B a, c, none⟩ (.bool true)).heap.size = w.heap.size := by simp
  have hla := h.bl a ha
  refine ⟨⟨?_, ?_, fun i hi => ?_, fun i j hi hj => ?_⟩, h.low, by rw [hs]; exact h.top, h.lr, h.bl, h.inj, fun i j hi => by rw [World.frozen?_setCell]; exact h.free i j hi⟩
  · rw [World.cell?_setCell_far _ _ _ _ (show B a ≠ L from hla.1)]; exact h.is.count
  · rw [World.cell?_setCell_far _ _ _ _ (show B a ≠ L from hla.1)]; exact h.is.rows
  · rw [World.cell?_setCell_far _ _ _ _ (show B a ≠ R from hla.2)]; exact h.is.row i hi
  · by_cases q : i = a ∧ j = c
    · obtain ⟨rfl, rfl⟩ := q
      rw [World.cell?_setCell_same _ _ _ (h.is.cell i j hi hj)]
      simp [setF]
    · have hne : (⟨B a, c, none⟩ : Addr) ≠ ⟨B i, j, none⟩ := by intro e; injection e with e1 e2; exact q ⟨(h.inj a i ha hi e1).symm, e2.symm⟩
      rw [World.cell?_setCell_other _ _ _ _ hne, h.is.cell i j hi hj]
      simp [setF, q]
theorem Owns.putBelow {w w0 : World} {D L R cap n : Nat} {B : Nat → Nat} {F : Flw} (h : Owns w D L R cap B n F) (hb : Below D w0 w) {a : Nat} (ha : a < n) (c : Nat) (v : Value) : Below D w0 (w.setCell ⟨B a, c, none⟩ v) :=
  hb.setCell (h.low.2.2 a ha) v
/-- the joins that the other text finds are the least bounds -/
theorem rjI_lst {n : Nat} {F G : Flw} (hF : ∀ i j, i < n → j < n → F i j = G i j) (hp : Pre G) (oG : Off n G) (n8 : n ≤ 8) {a b : Nat} (ha : a < n) (hb : b < n) : rjI n F a b = lstI G n a b := by
  have e : ∀ c, c ∈ List.range n → lsT n F a b c = lstT n G a b c := fun c hc => by
    have hc : c < n := by simpa using hc
    unfold lsT lstT
    rw [flB_nat _ _ _ _ ha hc, flB_nat _ _ _ _ hb hc, hF a c ha hc, hF b c hb hc]
    congr 1
    rw [Bool.eq_iff_iff]
    simp only [List.all_eq_true, List.mem_range]
    refine ⟨fun h d hd => ?_, fun h d hd => ?_⟩
    · have := h d hd
      unfold bndD at this
      rwa [flB_nat _ _ _ _ ha hd, flB_nat _ _ _ _ hb hd, flB_nat _ _ _ _ hc hd, hF a d ha hd, hF b d hb hd, hF c d hc hd] at this
    · unfold bndD
      rw [flB_nat _ _ _ _ ha hd, flB_nat _ _ _ _ hb hd, flB_nat _ _ _ _ hc hd, hF a d ha hd, hF b d hb hd, hF c d hc hd]
      exact h d hd
  unfold rjI lstI
  rw [find_same _ _ _ e, lstT_find hp oG n8 ha hb, if_pos ⟨⟨by omega, by omega⟩, by omega, by omega⟩]
  simp only [Int.toNat_natCast]
  cases lst G n a b <;> rfl
end Go.Proofs.Ytbkpfiagoinoiaa
