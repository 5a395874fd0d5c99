/- The other text's lattice made of pairs: facts for its walk; what it returns where there are too many or too few. No conditions. -/
import Derived.Test.YtbkpfiagoinoiaaRps
import Derived.Deep.OwnRows
namespace Go.Proofs.Ytbkpfiagoinoiaa
open Go.RowKit
set_option linter.unusedVariables false

def RPost (n : Int) (ps : List (Int × Int)) (w : World) (e : Ending) (w' : World) : Prop :=
  Below w.heap.size w w' ∧ ((newE n ps = 0 ∧ ∃ L R cap B F, e = .returned (.tuple #[.pointer (some ⟨L, 0, none⟩), .int .i64 0]) ∧ Owns w' w.heap.size L R cap B n.toNat F ∧ ∀ i j, i < n.toNat → j < n.toNat → F i j = newG ps i j) ∨
    (newE n ps ≠ 0 ∧ e = .returned (.tuple #[.pointer none, .int .i64 (newE n ps)])))
set_option maxRecDepth 100000 in
set_option maxHeartbeats 400000 in
theorem rnew_size (n : Int) (ao : Option Addr) (cap : Nat) (ps : List (Int × Int)) (w : World) (hl : ps.length ≤ 140737488355328) (h : n < 1 ∨ 8 < n ∨ 64 < ps.length) :
    Calls Try.prog 11 #[.int .i64 n, .slice ao ps.length cap] w (RPost n ps w) := by
  have e := newE_size h
  have fin : ∀ e' : Ending, e' = .returned (.tuple #[.pointer none, .int .i64 40]) → RPost n ps w e' w := fun e' q => ⟨Below.refl _ _, .inr ⟨by rw [e]; decide, by rw [e]; exact q⟩⟩
  have F := Lib.hid fin
  obtain ⟨L, hL⟩ : ∃ L, L = ps.length := ⟨_, rfl⟩
  rw [← hL] at h hl ⊢
  generalize RPost n ps w = Q at *
  clear e hL fin
  by_cases h1 : n < 1
  · go_enter Try.func11, Try.ntmps11
    go_wp2
    exact F.out _ rfl
  · have d1 : decide (n < 1) = false := by simpa using h1
    by_cases h2 : 8 < n
    · go_enter Try.func11, Try.ntmps11
      go_wp2
      exact F.out _ rfl
    · have d2 : decide (8 < n) = false := by simpa using h2
      have h3 : 64 < L := by omega
      have h3i : (64 : Int) < (L : Int) := by omega
      go_enter Try.func11, Try.ntmps11
      go_wp2
      exact F.out _ rfl
/-- the lattice's own block, before any row is there -/
structure Bare (w : World) (D L n : Nat) : Prop where
  is : w.heap[L]? = some (.cells #[.int .i64 (n : Int), .slice none 0 0] 35 (0, 0))
  low : D ≤ L
theorem Bare.below {w w' : World} {D L n : Nat} (h : Bare w D L n) (hb : Below w.heap.size w w') : Bare w' D L n := ⟨heap_below h.is hb (block_lt h.is), h.low⟩
theorem Bare.count {w : World} {D L n : Nat} (h : Bare w D L n) : w.cell? ⟨L, 0, none⟩ = some (.int .i64 (n : Int)) := by rw [cell_of_row _ _ _ _ _ _ h.is]; rfl

def moreN (v : Value) : Nat := match v with | .bool true => 1 | _ => 0
/-- behind some rows -/
structure RowsP (w : World) (D n i : Nat) (v : Value) (B : Nat → Nat) : Prop where
  is : w.heap[D]? = some (.cells #[.int .i64 (n : Int), v] 35 (0, 0))
  own : w.ownsRow (D + 1) 54 1 v i ((List.range i).map fun k => Value.slice (some ⟨B k, 0, none⟩) n n)
  row : ∀ k, k < i → ∃ C, w.heap[B k]? = some (.cells C 4 (0, 0)) ∧ ∀ j, j < n → C[j]? = some (.bool (decide (k = j)))
  low : ∀ k, k < i → D < B k
  inj : ∀ j k, j < i → k < i → B j = B k → j = k
theorem RowsP.begin {w : World} {D n : Nat} (h : Bare w D D n) : RowsP w D n 0 (.slice none 0 0) (fun _ => 0) :=
  ⟨h.is, World.ownsRow_nil _ _ _ _, fun k hk => absurd hk (by omega), fun k hk => absurd hk (by omega), fun j k hj => absurd hj (by omega)⟩
theorem RowsP.full {w : World} {D n : Nat} {v : Value} {B : Nat → Nat} (h : RowsP w D n n v B) (h1 : 1 ≤ n) : ∃ R cp, Owns w D D R cp B n (fun i j => decide (i = j)) := by
  obtain ⟨_, h2⟩ := h.own
  rcases h2 with ⟨_, h2⟩ | ⟨g, cap, cur, rfl, q2, q3, q4, q5, q6, q7⟩
  · omega
  · have hne : ∀ i, i < n → B i ≠ g := fun i hi e => by
      obtain ⟨C, hC, _⟩ := h.row i hi
      rw [e, q3] at hC
      injection hC with hC
      injection hC with _ hC
      exact absurd hC (by decide)
    refine ⟨g, cap, ⟨?_, ?_, fun i hi => ?_, fun i j hi hj => ?_⟩, ⟨Nat.le_refl _, by omega, fun i hi => Nat.le_of_lt (h.low i hi)⟩, ⟨block_lt h.is, block_lt q3, fun i hi => ?_⟩, by omega, fun i hi => ⟨?_, hne i hi⟩, fun i j hi hj e => h.inj i j hi hj e, fun i j hi => ?_⟩
    · rw [cell_of_row _ _ _ _ _ _ h.is]; rfl
    · rw [cell_of_row _ _ _ _ _ _ h.is]; rfl
    · have := World.ownsRow.cellAt h.own i (by simpa using hi)
      rw [this, List.getElem?_map, List.getElem?_range hi]; rfl
    · obtain ⟨C, hC, hc⟩ := h.row i hi
      rw [cell_of_row _ _ _ _ _ _ hC, hc j hj]
    · obtain ⟨C, hC, _⟩ := h.row i hi
      exact block_lt hC
    · have := h.low i hi; omega
    · obtain ⟨C, hC, _⟩ := h.row i hi
      exact block_free hC

theorem Try.info4 : (Try.prog.info? 4).map (fun i => (i.zero, i.size, i.bytes)) = some (some (.bool false), 1, 1) := by kernel_rfl
theorem Try.info54 : (Try.prog.info? 54).map (fun i => (i.zero, i.size, i.bytes)) = some (some (.slice none 0 0), 1, 24) := by kernel_rfl
/-- a row that was just made -/
theorem madeRow (n a : Nat) (ha : a < n) : ∀ j, j < n → ((madeCells #[.bool false] n).setIfInBounds a (.bool true))[j]? = some (.bool (decide (a = j))) := fun j hj => by
  have hs : (madeCells #[Value.bool false] n).size = n := by simp [size_madeCells]
  by_cases e : a = j
  · subst e
    rw [Array.getElem?_setIfInBounds_self_of_lt (by rw [hs]; exact ha)]; simp
  · rw [Array.getElem?_setIfInBounds_ne e]
    simp [madeCells, hj, Nat.mod_one, e]
/-- behind one row more -/
theorem RowsP.next {w w2 w3 : World} {D n a : Nat} {v v' : Value} {B : Nat → Nat} (h : RowsP w D n a v B) {C : Array Value} (hb : Below w.heap.size w w2) (hC : w2.heap[w.heap.size]? = some (.cells C 4 (0, 0)))
    (hc : ∀ j, j < n → C[j]? = some (.bool (decide (a = j)))) (hg : w2.grownBy w3 v.ownBlock) (own : w3.ownsRow (D + 1) 54 1 v' (a + 1) ((List.range a).map (fun k => Value.slice (some ⟨B k, 0, none⟩) n n) ++ [.slice (some ⟨w.heap.size, 0, none⟩) n n])) :
    RowsP (w3.setCell ⟨D, 1, none⟩ v') D n (a + 1) v' (fun k => if k = a then w.heap.size else B k) := by
  have hD := block_lt h.is
  have hs2 := hb.size
  have hlt : ∀ k, k < a → B k < w.heap.size := fun k hk => by obtain ⟨C, hC, _⟩ := h.row k hk; exact block_lt hC
  have hv : ∀ k, v.ownBlock = some k → D + 1 ≤ k ∧ k < w.heap.size := h.own.lt
  have hvt : ∀ k, k < a → v.ownBlock ≠ some (B k) := fun k hk e => by
    obtain ⟨C, hC, _⟩ := h.row k hk
    rcases h.own.2 with ⟨rfl, _⟩ | ⟨g, cap, cur, rfl, _, q3, _⟩
    · simp [Value.ownBlock] at e
    · simp only [Value.ownBlock, Option.some.injEq] at e
      rw [← e, q3] at hC
      injection hC with hC
      injection hC with _ hC
      exact absurd hC (by decide)
  have h3D : w3.heap[D]? = some (.cells #[.int .i64 (n : Int), v] 35 (0, 0)) := by
    rw [hg.block D (by omega) (fun e => by have := hv D e.symm; omega), hb.block D hD]; exact h.is
  refine ⟨?_, ?_, fun k hk => ?_, fun k hk => ?_, fun j k hj hk e => ?_⟩
  · rw [block_setCell h3D]; rfl
  · have e : (List.range (a + 1)).map (fun k => Value.slice (some ⟨(if k = a then w.heap.size else B k), 0, none⟩) n n) = (List.range a).map (fun k => Value.slice (some ⟨B k, 0, none⟩) n n) ++ [.slice (some ⟨w.heap.size, 0, none⟩) n n] := by
      rw [List.range_succ, List.map_append]
      congr 1
      · refine List.map_congr_left fun k hk => ?_
        have : k < a := by simpa using hk
        rw [if_neg (by omega)]
      · simp
    rw [e]
    refine ⟨own.1, ?_⟩
    rcases own.2 with q | ⟨g, cap, cur, r1, r2, r3, r4⟩
    · exact .inl q
    · exact .inr ⟨g, cap, cur, r1, r2, by rw [block_setCell_other (by show g ≠ D; omega)]; exact r3, r4⟩
  · by_cases q : k = a
    · subst q
      refine ⟨C, ?_, hc⟩
      rw [if_pos rfl, block_setCell_other (by show w.heap.size ≠ D; omega), hg.block _ (block_lt hC) (fun e => by have := (hv _ e.symm).2; omega)]
      exact hC
    · obtain ⟨C', hC', hc'⟩ := h.row k (by omega)
      have hk' := hlt k (by omega)
      have hl := h.low k (by omega)
      refine ⟨C', ?_, hc'⟩
      rw [if_neg q, block_setCell_other (by show B k ≠ D; omega), hg.block _ (by omega) (fun e => hvt k (by omega) e.symm), hb.block _ hk']
      exact hC'
  · split
    · exact hD
    · exact h.low k (by omega)
  · by_cases p : j = a <;> by_cases q : k = a
    · omega
    · rw [if_pos p, if_neg q] at e
      have := hlt k (by omega); omega
    · rw [if_neg p, if_pos q] at e
      have := hlt j (by omega); omega
    · rw [if_neg p, if_neg q] at e
      exact h.inj j k (by omega) (by omega) e
theorem own_value {w : World} {base : Nat} {e : TypeId} {size k : Nat} {v : Value} {xs : List Value} (h : w.ownsRow base e size v (k + 1) xs) : ∃ g cp, v = .slice (some ⟨g, 0, none⟩) (k + 1) cp := by
  rcases h.2 with ⟨_, q⟩ | ⟨g, cap, cur, r, _⟩
  · omega
  · exact ⟨g, cap, r⟩
/-- what the round of the rows leaves, in the walk's spelling -/
theorem RowsP.more {w0 wr w1 : World} {D n a : Nat} {v v' : Value} {B : Nat → Nat} (h : RowsP wr D n a v B) (ha : a < n) {Y : Obj}
    (hg : ((wr.alloc (.cells ((madeCells #[.bool false] n).setIfInBounds a (.bool true)) 4)).alloc Y).grownBy w1 v.ownBlock)
    (own : w1.ownsRow (D + 1) 54 1 v' (a + 1) ((List.range a).map (fun k => Value.slice (some ⟨B k, 0, none⟩) n n) ++ [.slice (some ⟨wr.heap.size, 0, none⟩) n n])) (hb : Below D w0 wr) :
    Below D w0 (w1.setCell ⟨D, 1, none⟩ v') ∧ RowsP (w1.setCell ⟨D, 1, none⟩ v') D n (a + 1) v' (fun k => if k = a then wr.heap.size else B k) ∧ w1.cell? ⟨D, 1, none⟩ = some v ∧ w1.frozen? ⟨D, 1, none⟩ = false := by
  have hD := block_lt h.is
  have hs : ((wr.alloc (.cells ((madeCells #[.bool false] n).setIfInBounds a (.bool true)) 4)).alloc Y).heap.size = wr.heap.size + 2 := by simp
  have b2 : Below wr.heap.size wr ((wr.alloc (.cells ((madeCells #[.bool false] n).setIfInBounds a (.bool true)) 4)).alloc Y) :=
    ((Below.refl _ wr).alloc (Nat.le_refl _) _).alloc (by simp) _
  have hC : ((wr.alloc (.cells ((madeCells #[.bool false] n).setIfInBounds a (.bool true)) 4)).alloc Y).heap[wr.heap.size]? = some (.cells ((madeCells #[.bool false] n).setIfInBounds a (.bool true)) 4 (0, 0)) := block_alloc (block_new wr _) _
  have h1D : w1.heap[D]? = some (.cells #[.int .i64 (n : Int), v] 35 (0, 0)) := by
    rw [hg.block D (by omega) (fun e => by have := (h.own.lt D e.symm).1; omega), b2.block D hD]; exact h.is
  refine ⟨?_, RowsP.next h b2 hC (madeRow n a ha) hg own, ?_, block_free h1D⟩
  · have b3 : Below D w0 w1 := (((hb.alloc (by omega) _).alloc (by simp; omega) _)).grown hg (by omega) (fun k hk => by have := (h.own.lt k hk).1; omega)
    exact b3.setCell (Nat.le_refl _) _
  · rw [cell_of_row _ _ _ _ _ _ h1D]; rfl
/-! ### two that flow to each other -/
def Before (x y x' y' : Nat) : Prop := x' < x ∨ (x' = x ∧ y' < y)
def NoLoop (n : Nat) (F : Flw) (x y : Nat) : Prop := ∀ x' y', x' < n → y' < n → Before x y x' y' → x' ≠ y' → (F x' y' && F y' x') = false
theorem NoLoop.begin (n : Nat) (F : Flw) : NoLoop n F 0 0 := fun x' y' _ _ h => by unfold Before at h; omega
theorem NoLoop.next {n : Nat} {F : Flw} {x y : Nat} (h : NoLoop n F x y) (q : x ≠ y → (F x y && F y x) = false) : NoLoop n F x (y + 1) := fun x' y' hx hy hb hne => by
  by_cases t : x' = x ∧ y' = y
  · obtain ⟨rfl, rfl⟩ := t; exact q hne
  · exact h x' y' hx hy (by unfold Before at hb ⊢; omega) hne
theorem NoLoop.up {n : Nat} {F : Flw} {x y : Nat} (h : NoLoop n F x y) (hy : n ≤ y) : NoLoop n F (x + 1) 0 := fun x' y' hx' hy' hb hne => h x' y' hx' hy' (by unfold Before at hb ⊢; omega) hne
theorem NoLoop.none {n : Nat} {F G : Flw} {y : Nat} (h : NoLoop n F n y) (hF : ∀ i j, i < n → j < n → F i j = G i j) : loopB n G = false :=
  loopB_false fun a ha b hb => by
    have := h a b ha (by omega) (by unfold Before; omega) (by omega)
    rw [← hF a b ha (by omega), ← hF b a (by omega) ha]; exact this
theorem loop_found {n : Nat} {F G : Flw} {x y : Nat} (hx : x < n) (hy : y < n) (hne : x ≠ y) (hF : ∀ i j, i < n → j < n → F i j = G i j) (q : (F x y && F y x) = true) : loopB n G = true := by
  rw [hF x y hx hy, hF y x hy hx] at q
  rcases Nat.lt_or_gt_of_ne hne with h | h
  · exact loopB_true hy h (by rw [Bool.and_comm]; exact q)
  · exact loopB_true hx h q
/-! ### two that have no least bound -/
theorem lstI_self {n : Nat} {G : Flw} {a : Nat} (ha : a < n) : lstI G n a a ≠ -1 := by
  unfold lstI
  rw [if_pos ⟨⟨by omega, by omega⟩, by omega, by omega⟩]
  simp only [Int.toNat_natCast]
  cases h : lst G n a a with
  | none =>
    have := lst_none h a ha
    rw [← Bool.not_eq_true] at this
    exact absurd ((rowEq_iff _ _).2 fun i _ => by simp [andR]) this
  | some c => show (c : Int) ≠ -1; omega
theorem lstI_turned {n : Nat} {G : Flw} {a b : Nat} (ha : a < n) (hb : b < n) : lstI G n a b = lstI G n b a := by
  unfold lstI
  rw [if_pos ⟨⟨by omega, by omega⟩, by omega, by omega⟩, if_pos ⟨⟨by omega, by omega⟩, by omega, by omega⟩]
  simp only [Int.toNat_natCast]
  rw [lst_comm]
theorem lstI_neg {n : Nat} {G : Flw} {a b : Int} : lstI G n a b = -1 ∨ 0 ≤ lstI G n a b := by
  unfold lstI
  split
  · split
    · exact .inr (by omega)
    · exact .inl rfl
  · exact .inl rfl
def Joins (n : Nat) (G : Flw) (x y : Nat) : Prop := ∀ x' y', x' < n → y' < n → Before x y x' y' → lstI G n x' y' ≠ -1 ∧ lstI (turn G) n x' y' ≠ -1
theorem Joins.begin (n : Nat) (G : Flw) : Joins n G 0 0 := fun x' y' _ _ h => by unfold Before at h; omega
theorem Joins.next {n : Nat} {G : Flw} {x y : Nat} (h : Joins n G x y) (q : lstI G n x y ≠ -1 ∧ lstI (turn G) n x y ≠ -1) : Joins n G x (y + 1) := fun x' y' hx hy hb => by
  by_cases t : x' = x ∧ y' = y
  · obtain ⟨rfl, rfl⟩ := t; exact q
  · exact h x' y' hx hy (by unfold Before at hb ⊢; omega)
theorem Joins.up {n : Nat} {G : Flw} {x y : Nat} (h : Joins n G x y) (hy : n ≤ y) : Joins n G (x + 1) 0 := fun x' y' hx' hy' hb => h x' y' hx' hy' (by unfold Before at hb ⊢; omega)
theorem Joins.all {n : Nat} {G : Flw} {y : Nat} (h : Joins n G n y) : joinB n G = true :=
  joinB_true fun a ha b hb => h a b ha (by omega) (by unfold Before; omega)
theorem join_lacks {n : Nat} {G : Flw} {x y : Nat} (hx : x < n) (hy : y < n) (q : lstI G n x y = -1 ∨ lstI (turn G) n x y = -1) : joinB n G = false := by
  by_cases e : x = y
  · subst e
    rcases q with q | q
    · exact absurd q (lstI_self hx)
    · exact absurd q (lstI_self hx)
  · rcases Nat.lt_or_gt_of_ne e with h | h
    · refine joinB_false hy h ?_
      rw [lstI_turned hy hx, lstI_turned (G := turn G) hy hx]; exact q
    · exact joinB_false hx h q
end Go.Proofs.Ytbkpfiagoinoiaa
