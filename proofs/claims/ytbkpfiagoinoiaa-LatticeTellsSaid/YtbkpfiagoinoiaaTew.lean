/- By any pairs a lattice is made, or refused, as the document says, and all that is asked of it is told so: the walk. Conditions: there are at most as many pairs as a machine holds. -/
import Derived.Test.YtbkpfiagoinoiaaRpr
import Derived.Test.YtbkpfiagoinoiaaRnw
import Derived.Test.YtbkpfiagoinoiaaMom
namespace Go.Proofs.Ytbkpfiagoinoiaa
open Go.RowKit
set_option linter.unusedVariables false

/-- pairs put behind pairs, in the order of the text -/
theorem list_app {ops : Array Oper} {rest : List Oper} {o : Oper} {a : Act} {w : World} {Q : Exit → Act → World → Prop} (hgd : o.guard = none) (s x : Operand)
    (ho : o.op = .call { callee := .builtin .append, args := #[s, x], argTypes := #[22, 22] }) (D : Nat) (ao0 : Option Addr) (cap0 : Nat) (xs : List (Int × Int)) (N0 : Nat) (hN0 : N0 = xs.length) (hs : a.eval s = .slice ao0 N0 cap0)
    (hown : w.ownsRow D 23 2 (.slice ao0 N0 cap0) N0 (flatP xs)) (ao : Option Addr) (cap : Nat) (ps : List (Int × Int)) (N1 : Nat) (hN1 : N1 = ps.length) (hx : a.eval x = .slice ao N1 cap) (hP : LiesP w ao ps)
    (hcap : ao = none → cap = 0) (hl : xs.length + ps.length ≤ 8796093022100) (hD : D ≤ w.heap.size) (N : Nat) (hN : N = (xs ++ ps).length)
    (h : ∀ ao' cap' w', w.grownBy w' (Value.slice ao0 N0 cap0).ownBlock → w'.ownsRow D 23 2 (.slice ao' N cap') N (flatP (xs ++ ps)) → LiesP w' ao' (xs ++ ps) → (ao' = none → cap' = 0) → Below D w w' → D ≤ w'.heap.size → wpList Try.prog ops Q rest (a.put o.dst (.slice ao' N cap')) w') :
    wpList Try.prog ops Q (o :: rest) a w := by
  subst hN0 hN1 hN
  obtain ⟨v', w', hr, own, bel, hs', hg⟩ := app_pairsG o.type w D _ xs hown ao cap ps hP hcap hl hD
  obtain ⟨ao', cap', rfl, hL, hc⟩ := own_pairsI own
  exact list_append_run hgd s x 22 ho _ _ _ w' hs hx hr (h ao' cap' w' hg own hL hc bel hs')

set_option maxRecDepth 100000 in
set_option maxHeartbeats 8000000 in
theorem tells_no (n : Int) (ao : Option Addr) (cap : Nat) (ps : List (Int × Int)) (x y : Int) (w : World) (hl : ps.length ≤ 8796093022000) (hP : LiesP w ao ps) (hcap : ao = none → cap = 0) (he : newE n ps ≠ 0) :
    Calls Try.prog 3 #[.int .i64 n, .slice ao ps.length cap, .agg #[.int .i64 x, .int .i64 y]] w fun e w' => e = .returned (.bool true) ∧ Below w.heap.size w w' := by
  obtain ⟨B, hB⟩ : ∃ B, B = w.heap.size := ⟨_, rfl⟩
  have hzz : w.heap.size = B := hB.symm
  have hl2 : ps.length ≤ 140737488355328 := by omega
  obtain ⟨I, hI⟩ : ∃ I : World → Prop, I = fun w1 => Below B w w1 ∧ LiesP w1 ao ps := ⟨_, rfl⟩
  have stI : Stays I := by rw [hI, hB]; exact stays_lies (stays_below w) ao ps
  have own0 : ∀ w1 : World, w1.heap.size = B + 1 → (w1.alloc (.cells #[] 23)).ownsRow (B + 1) 23 2 (.slice (some ⟨B + 1, 0, none⟩) 0 0) 0 (flatP []) := fun w1 h1 =>
    own_empty (by rw [← h1]; exact block_new _ _) (Nat.le_refl _)
  have bel0 : ∀ o : Obj, ∀ o2 : Obj, Below B w ((w.alloc o).alloc o2) := fun o o2 => by rw [hB]; exact ((Below.refl _ w).alloc (Nat.le_refl _) _).alloc (by simp) _
  have lies0 : ∀ o o2 : Obj, LiesP ((w.alloc o).alloc o2) ao ps := fun o o2 => lies_alloc (lies_alloc hP o) o2
  have NK : Hid (∀ ao' cap' w1, LiesP w1 ao' ps → I w1 → Calls Try.prog 10 #[.int .i64 n, .slice ao' ps.length cap'] w1 fun e w' => e = .returned (.tuple #[.pointer none, .int .i64 (newE n ps)]) ∧ I w' ∧ Below w1.heap.size w1 w') := fun ao' cap' w1 h1 h2 =>
    inv_newNo stI n ao' cap' ps hl2 w1 h2 h1 he
  have RK : Hid (∀ w1, I w1 → Calls Try.prog 11 #[.int .i64 n, .slice ao ps.length cap] w1 fun e w' => e = .returned (.tuple #[.pointer none, .int .i64 (newE n ps)]) ∧ I w' ∧ Below w1.heap.size w1 w') := fun w1 h1 =>
    (rnew_any n ao cap ps w1 hl2 (by rw [hI] at h1; exact h1.2)).mono fun e w' ⟨hb, h⟩ => by
      rcases h with ⟨h, _⟩ | ⟨_, rfl⟩
      · exact absurd h he
      · exact ⟨rfl, stI w1 w' h1 hb, hb⟩
  have FX : Hid (∀ w1, I w1 → Calls Try.prog 12 #[] w1 fun e w' => e = .returned (.bool true) ∧ I w' ∧ Below w1.heap.size w1 w') := fun w1 h1 =>
    (fixed_any w1).mono fun e w' ⟨h2, h3⟩ => ⟨h2, stI w1 w' h1 h3, h3⟩
  have SP : Hid (∀ ao' cap' w1, LiesP w1 ao' ps → I w1 → Calls Try.prog 13 #[.slice ao' ps.length cap', .slice ao ps.length cap] w1 fun e w' => e = .returned (.bool true) ∧ I w') := fun ao' cap' w1 h1 h2 =>
    (samep_any ao' ao cap' cap ps w1 hl2 h1 (by rw [hI] at h2; exact h2.2)).mono fun e w' ⟨q, k, hk⟩ => ⟨q, by subst hk; rw [hI] at h2 ⊢; exact ⟨below_drewN h2.1 k, h2.2⟩⟩
  have hI0 : Hid (∀ w1, Below B w w1 → I w1) := fun w1 h1 => by rw [hI]; exact ⟨h1, hP.below h1 (by omega)⟩
  have hfin : Hid (∀ w1, I w1 → Below B w w1) := by rw [hI]; exact fun w1 q => q.1
  have hne1 : ((newE n ps) != (newE n ps)) = false := by simp
  generalize newE n ps = d at *
  have OW0 := Lib.hid own0
  have BL0 := Lib.hid bel0
  have LI0 := Lib.hid lies0
  rw [hzz]
  clear hI hB hP own0 bel0 lies0 stI
  go_enter Try.func3, Try.ntmps3
  go_wp2_with (first
    | (at_builtin; refine list_app (by rfl) _ _ (by rfl) (B + 1) _ _ [] 0 rfl (by rfl) (OW0.out _ (by simp; omega)) ao cap ps ps.length rfl (by rfl) (LI0.out _ _) hcap (by simp; omega) (by simp; omega) ps.length (by simp) ?_; intro ao9 cap9 w9 hg9 own9 lies9 hc9 bel9 hs9; have i9 := Lib.hid (hI0.out _ ((BL0.out _ _).trans (bel9.mono (Nat.le_succ B)))); rw [List.nil_append] at lies9 own9; clear hg9 hc9 bel9)
    | (go_at_call 10; (with_reducible refine (NK.out _ _ _ lies9 i9.out).mono ?_); rintro e w10 ⟨rfl, i10, b10⟩)
    | (go_at_call 11; (with_reducible refine (RK.out _ i10).mono ?_); rintro e w11 ⟨rfl, i11, b11⟩)
    | (go_at_call 12; (with_reducible refine (FX.out _ i11).mono ?_); rintro e w12 ⟨rfl, i12, b12⟩)
    | (go_at_call 13; (with_reducible refine (SP.out _ _ _ (((lies9.below b10 (Nat.le_refl _)).below b11 (Nat.le_refl _)).below b12 (Nat.le_refl _)) i12).mono ?_); rintro e w13 ⟨rfl, i13⟩))
  have hf := hfin.out _ i13
  go_ret
  exact ⟨rfl, hf⟩

/-- the box of what is asked, pairs, and whatever was below -/
def AskI (w : World) (B : Nat) (x y : Int) (ao : Option Addr) (ps : List (Int × Int)) (w1 : World) : Prop := (Below B w w1 ∧ LiesP w1 ao ps) ∧ w1.heap[B]? = some (.cells #[.int .i64 x, .int .i64 y] 23 (0, 0))
theorem AskI.stays {w : World} {B : Nat} {x y : Int} {ao : Option Addr} {ps : List (Int × Int)} : Stays (AskI w B x y ao ps) := fun w1 w2 h k =>
  ⟨⟨h.1.1.trans (k.mono (Nat.le_of_lt (block_lt h.2))), h.1.2.below k (Nat.le_refl _)⟩, heap_below h.2 k (block_lt h.2)⟩
/-- all that the walk holds on to -/
structure TelJ (w : World) (B D : Nat) (x y : Int) (b m : Nat) (G F : Flw) (L R cp : Nat) (Bf : Nat → Nat) (w1 : World) : Prop where
  bel : Below B w w1
  box : w1.heap[B]? = some (.cells #[.int .i64 x, .int .i64 y] 23 (0, 0))
  isl : IsL w1 b m G
  own : Owns w1 D L R cp Bf m F
theorem TelJ.stays {w : World} {B D : Nat} {x y : Int} {b m : Nat} {G F : Flw} {L R cp : Nat} {Bf : Nat → Nat} : Stays (TelJ w B D x y b m G F L R cp Bf) := fun w1 w2 h k =>
  ⟨h.bel.trans (k.mono (Nat.le_of_lt (block_lt h.box))), heap_below h.box k (block_lt h.box), h.isl.below k h.isl.lt, h.own.below k⟩
theorem Owns.far {w : World} {D L R cap n : Nat} {B : Nat → Nat} {F : Flw} (h : Owns w D L R cap B n F) {g : Nat} (hg : g < D) (o : Nat) (v : Value) : Owns (w.setCell ⟨g, o, none⟩ v) D L R cap B n F := by
  have hs : (w.setCell ⟨g, o, none⟩ v).heap.size = w.heap.size := by simp
  have hl := h.low
  refine ⟨⟨?_, ?_, fun i hi => ?_, fun i j hi hj => ?_⟩, h.low, by rw [hs]; exact h.top, h.lr, h.bl, h.inj, fun i j hi => by rw [World.frozen?_setCell]; exact h.free i j hi⟩
  · rw [World.cell?_setCell_far _ _ _ _ (show g ≠ L by omega)]; exact h.is.count
  · rw [World.cell?_setCell_far _ _ _ _ (show g ≠ L by omega)]; exact h.is.rows
  · rw [World.cell?_setCell_far _ _ _ _ (show g ≠ R by omega)]; exact h.is.row i hi
  · rw [World.cell?_setCell_far _ _ _ _ (show g ≠ B i by have := hl.2.2 i hi; omega)]; exact h.is.cell i j hi hj
theorem TelJ.put {w : World} {B D : Nat} {x y : Int} {b m : Nat} {G F : Flw} {L R cp : Nat} {Bf : Nat → Nat} {w1 : World} (h : TelJ w B D x y b m G F L R cp Bf w1) {g : Nat} (hg : B + 1 ≤ g) (hD : g < D) (hb : g ≠ b) (o : Nat) (v : Value) :
    TelJ w B D x y b m G F L R cp Bf (w1.setCell ⟨g, o, none⟩ v) :=
  ⟨h.bel.setCell (by show B ≤ g; omega) _, by rw [block_setCell_other (by show B ≠ g; omega)]; exact h.box, by unfold IsL; rw [block_setCell_other (by show b ≠ g; omega)]; exact h.isl, h.own.far hD o v⟩
theorem own_set {w : World} {base : Nat} {e : TypeId} {size g n cap : Nat} {xs : List Value} (h : w.ownsRow base e size (.slice (some ⟨g, 0, none⟩) n cap) n xs) (o : Nat) (v : Value) : ∃ xs', (w.setCell ⟨g, o, none⟩ v).ownsRow base e size (.slice (some ⟨g, 0, none⟩) n cap) n xs' := by
  obtain ⟨h1, ⟨q, _⟩ | ⟨g', cap', cur, q1, q2, q3, q4, q5, q6, q7⟩⟩ := h
  · simp at q
  · simp only [Value.slice.injEq, Option.some.injEq, Addr.mk.injEq] at q1
    obtain ⟨⟨rfl, _, _⟩, _, rfl⟩ := q1
    refine ⟨(cur.setIfInBounds o v).toList.take (n * size), ?_, .inr ⟨g, cap, cur.setIfInBounds o v, rfl, q2, block_setCell q3, q4, q5, by simpa using q6, rfl⟩⟩
    rw [List.length_take, Array.length_toList, Array.size_setIfInBounds, q6]
    have := Nat.mul_le_mul_right size q4
    omega
theorem own_other {w : World} {base : Nat} {e : TypeId} {size n : Nat} {u : Value} {xs : List Value} (h : w.ownsRow base e size u n xs) {g : Nat} (hg : u.ownBlock ≠ some g) (o : Nat) (v : Value) : (w.setCell ⟨g, o, none⟩ v).ownsRow base e size u n xs := by
  obtain ⟨h1, h2 | ⟨g', cap', cur, rfl, q2, q3, q4⟩⟩ := h
  · exact ⟨h1, .inl h2⟩
  · refine ⟨h1, .inr ⟨g', cap', cur, rfl, q2, ?_, q4⟩⟩
    rw [block_setCell_other (by show g' ≠ g; intro e; subst e; exact hg rfl)]
    exact q3
/-- a row of at least one: its block, its cells -/
theorem own_open {w : World} {base : Nat} {e : TypeId} {size n cap : Nat} {ao : Option Addr} {xs : List Value} (h : w.ownsRow base e size (.slice ao n cap) n xs) (hn : 0 < n) :
    ∃ g, ao = some ⟨g, 0, none⟩ ∧ base ≤ g ∧ (∀ j, w.frozen? ⟨g, j, none⟩ = false) ∧ (∀ j, j < n * size → ∃ u, w.cell? ⟨g, j, none⟩ = some u) ∧ ∃ C, w.heap[g]? = some (.cells C e (0, 0)) := by
  obtain ⟨h1, ⟨q, q0⟩ | ⟨g', cap', cur, q1, q2, q3, q4, q5, q6, q7⟩⟩ := h
  · omega
  · simp only [Value.slice.injEq] at q1
    obtain ⟨rfl, _, rfl⟩ := q1
    refine ⟨g', rfl, q2, fun j => block_free q3, fun j hj => ?_, cur, q3⟩
    have := Nat.mul_le_mul_right size q4
    exact ⟨cur[j]'(by omega), by rw [cell_of_row _ _ _ _ _ _ q3, Array.getElem?_eq_getElem]⟩
theorem not51 {w : World} {g b m : Nat} {G : Flw} {C : Array Value} {t : TypeId} {fr : Nat × Nat} (h : w.heap[g]? = some (.cells C t fr)) (ht : t ≠ 51) (hb : IsL w b m G) : g ≠ b := fun e => by
  subst e
  unfold IsL at hb
  rw [h] at hb
  injection hb with hb
  injection hb with _ hb
  exact ht hb
theorem flB_below {n : Nat} {F G : Flw} (hF : ∀ i j, i < n → j < n → F i j = G i j) (p q : Int) : flB n F p q = flB n G p q := by
  unfold flB
  cases h1 : hasB n p with
  | false => rfl
  | true =>
    cases h2 : hasB n q with
    | false => rfl
    | true =>
      obtain ⟨a, rfl, ha⟩ := hasB_nat h1
      obtain ⟨c, rfl, hc⟩ := hasB_nat h2
      simp [hF a c ha hc]
theorem rjI_out {n : Nat} {F : Flw} {p q : Int} (h : hasB n p = false ∨ hasB n q = false) : rjI n F p q = -1 := rjI_none fun d hd => by
  unfold lsT flB
  rcases h with h | h <;> simp [h]
theorem lstI_out {n : Nat} {G : Flw} {p q : Int} (h : hasB n p = false ∨ hasB n q = false) : lstI G n p q = -1 := by
  unfold lstI
  rw [if_neg]
  intro e
  have h1 : hasB n p = true := by rw [hasB_iff]; omega
  have h2 : hasB n q = true := by rw [hasB_iff]; omega
  rw [h1, h2] at h
  simp at h
theorem rjI_any {n : Nat} {F G : Flw} (hF : ∀ i j, i < n → j < n → F i j = G i j) (hp : Pre G) (oG : Off n G) (n8 : n ≤ 8) (p q : Int) : rjI n F p q = lstI G n p q := by
  cases h1 : hasB n p with
  | false => rw [rjI_out (.inl h1), lstI_out (.inl h1)]
  | true =>
    cases h2 : hasB n q with
    | false => rw [rjI_out (.inr h2), lstI_out (.inr h2)]
    | true =>
      obtain ⟨a, rfl, ha⟩ := hasB_nat h1
      obtain ⟨c, rfl, hc⟩ := hasB_nat h2
      exact rjI_lst hF hp oG n8 ha hc
theorem rab_all {n : Nat} {F : Flw} {a : Nat} (ha : a < n) : (rabL n F a n).length = n ↔ ∀ b, b < n → F a b = true := by
  unfold rabL
  have := List.length_filter_eq_length_iff (p := fun b : Nat => flB n F (a : Int) b) (l := List.range n)
  rw [List.length_range] at this
  rw [this]
  refine ⟨fun h b hb => ?_, fun h b hb => ?_⟩
  · have := h b (by simpa using hb)
    rwa [flB_nat _ _ _ _ ha hb] at this
  · have hb : b < n := by simpa using hb
    rw [flB_nat _ _ _ _ ha hb]; exact h b hb
theorem top_same {n : Nat} {F G : Flw} (L : Lat n G) (hF : ∀ i j, i < n → j < n → F i j = G i j) : (topF n fun a => (rabL n (turn F) a n).length) = topI (lstI G n) n := by
  obtain ⟨t, e, ht, h⟩ := L.topI_top n (Nat.le_refl _) L.n1
  rw [e]
  refine topF_first ht ((rab_all ht).2 fun b hb => ?_) fun d hd q => ?_
  · show F b t = true
    rw [hF b t hb ht]; exact h b hb
  · have h2 := (rab_all (by omega)).1 q t ht
    rw [turn_at, hF t d ht (by omega)] at h2
    have := L.anti d t (by omega) ht (h d (by omega)) h2
    omega
theorem own_lower {w : World} {base base' : Nat} {e : TypeId} {size n : Nat} {v : Value} {xs : List Value} (h : w.ownsRow base e size v n xs) (hb : base' ≤ base) : w.ownsRow base' e size v n xs := by
  obtain ⟨h1, h2 | ⟨g, cap, cur, q1, q2, q3⟩⟩ := h
  · exact ⟨h1, .inl h2⟩
  · exact ⟨h1, .inr ⟨g, cap, cur, q1, Nat.le_trans hb q2, q3⟩⟩
theorem lvlL_le (n : Nat) (G : Flw) (x : Int) : (lvlL n G x).length ≤ 8 := by
  unfold lvlL
  split
  · exact upL_len _ _
  · simp
set_option maxRecDepth 100000 in
set_option maxHeartbeats 8000000 in
theorem tells_yes (m : Nat) (ao : Option Addr) (cap : Nat) (ps : List (Int × Int)) (x y : Int) (w : World) (hl : ps.length ≤ 8796093022000) (hP : LiesP w ao ps) (hcap : ao = none → cap = 0) (he : newE m ps = 0) :
    Calls Try.prog 3 #[.int .i64 (m : Int), .slice ao ps.length cap, .agg #[.int .i64 x, .int .i64 y]] w fun e w' => e = .returned (.bool true) ∧ Below w.heap.size w w' := by
  obtain ⟨B, hB⟩ : ∃ B, B = w.heap.size := ⟨_, rfl⟩
  have hzz : w.heap.size = B := hB.symm
  have hl2 : ps.length ≤ 140737488355328 := by omega
  have LT := new_lat he
  have hok := newE_ok he
  rw [Int.toNat_natCast] at LT hok
  have m8 := LT.n8
  have m1 := LT.n1
  have hoff := new_off hok.2.2.2.1
  obtain ⟨I, hI⟩ : ∃ I : World → Prop, I = AskI w B x y ao ps := ⟨_, rfl⟩
  have stI : Stays I := by rw [hI]; exact AskI.stays
  have own0 : ∀ w1 : World, w1.heap.size = B + 1 → (w1.alloc (.cells #[] 23)).ownsRow (B + 1) 23 2 (.slice (some ⟨B + 1, 0, none⟩) 0 0) 0 (flatP []) := fun w1 h1 =>
    own_empty (by rw [← h1]; exact block_new _ _) (Nat.le_refl _)
  have bel0 : ∀ o : Obj, ∀ o2 : Obj, Below B w ((w.alloc o).alloc o2) := fun o o2 => by rw [hB]; exact ((Below.refl _ w).alloc (Nat.le_refl _) _).alloc (by simp) _
  have lies0 : ∀ o o2 : Obj, LiesP ((w.alloc o).alloc o2) ao ps := fun o o2 => lies_alloc (lies_alloc hP o) o2
  have box0 : ∀ (o2 : Obj) (w9 : World), Below (B + 1) ((w.alloc (.cells #[.int .i64 x, .int .i64 y] 23)).alloc o2) w9 → I w9 := fun o2 w9 h => by
    have b2 : Below B w w9 := (bel0 _ o2).trans (h.mono (Nat.le_succ B))
    rw [hI]
    exact ⟨⟨b2, hP.below b2 (by omega)⟩, heap_below (block_alloc (by rw [hB]; exact block_new _ _) _) h (Nat.lt_succ_self B)⟩
  have NK : Hid (∀ ao' cap' w1, LiesP w1 ao' ps → I w1 → Calls Try.prog 10 #[.int .i64 (m : Int), .slice ao' ps.length cap'] w1 fun e w' => ∃ b, e = .returned (.tuple #[.pointer (some ⟨b, 0, none⟩), .int .i64 0]) ∧ I w' ∧ IsL w' b m (newG ps) ∧ Below w1.heap.size w1 w') := fun ao' cap' w1 h1 h2 => by
    have := inv_new stI m ao' cap' ps hl2 w1 h2 h1 he
    rw [Int.toNat_natCast] at this
    exact this
  have RK : Hid (∀ w1, I w1 → Calls Try.prog 11 #[.int .i64 (m : Int), .slice ao ps.length cap] w1 fun e w' => ∃ L R cp Bf F, e = .returned (.tuple #[.pointer (some ⟨L, 0, none⟩), .int .i64 0]) ∧ I w' ∧ Below w1.heap.size w1 w' ∧ Owns w' w1.heap.size L R cp Bf m F ∧ Hid (∀ i j, i < m → j < m → F i j = newG ps i j)) := fun w1 h1 =>
    (rnew_any m ao cap ps w1 hl2 (by rw [hI] at h1; exact h1.1.2)).mono fun e w' ⟨hb, h⟩ => by
      rcases h with ⟨_, L, R, cp, Bf, F, h2, h3, h4⟩ | ⟨h, _⟩
      · rw [Int.toNat_natCast] at h3 h4
        exact ⟨L, R, cp, Bf, F, h2, stI w1 w' h1 hb, hb, h3, h4⟩
      · exact absurd he h
  have FX : Hid (∀ w1, I w1 → Calls Try.prog 12 #[] w1 fun e w' => e = .returned (.bool true) ∧ I w' ∧ Below w1.heap.size w1 w') := fun w1 h1 =>
    (fixed_any w1).mono fun e w' ⟨h2, h3⟩ => ⟨h2, stI w1 w' h1 h3, h3⟩
  have SP : Hid (∀ ao' cap' w1, LiesP w1 ao' ps → I w1 → Calls Try.prog 13 #[.slice ao' ps.length cap', .slice ao ps.length cap] w1 fun e w' => e = .returned (.bool true) ∧ I w' ∧ Below w1.heap.size w1 w') := fun ao' cap' w1 h1 h2 =>
    (samep_any ao' ao cap' cap ps w1 hl2 h1 (by rw [hI] at h2; exact h2.1.2)).mono fun e w' ⟨q, k, hk⟩ => by
      have b := below_drewN (Below.refl w1.heap.size w1) k
      rw [← hk] at b
      exact ⟨q, stI w1 w' h2 b, b⟩
  have hI0 := Lib.hid box0
  have hfin : Hid (∀ w1, I w1 → Below B w w1 ∧ w1.heap[B]? = some (.cells #[.int .i64 x, .int .i64 y] 23 (0, 0))) := by rw [hI]; exact fun w1 q => ⟨q.1.1, q.2⟩
  generalize newG ps = G at *
  have OW0 := Lib.hid own0
  have LI0 := Lib.hid lies0
  have HOFF := Lib.hid hoff
  have HLT := Lib.hid LT
  rw [hzz]
  clear hI hB hP own0 bel0 lies0 stI he box0 hok hoff LT
  go_enter Try.func3, Try.ntmps3
  go_wp2_with (first
    | (at_builtin; refine list_app (by rfl) _ _ (by rfl) (B + 1) _ _ [] 0 rfl (by rfl) (OW0.out _ (by simp; omega)) ao cap ps ps.length rfl (by rfl) (LI0.out _ _) hcap (by simp; omega) (by simp; omega) ps.length (by simp) ?_; intro ao9 cap9 w9 hg9 own9 lies9 hc9 bel9 hs9; have i9 := Lib.hid (hI0.out _ _ bel9); rw [List.nil_append] at lies9 own9; clear hg9 hc9 bel9)
    | (go_at_call 10; (with_reducible refine (NK.out _ _ _ lies9 i9.out).mono ?_); rintro e w10 ⟨b, rfl, i10, l10, b10⟩)
    | (go_at_call 11; (with_reducible refine (RK.out _ i10).mono ?_); rintro e w11 ⟨L, R, cp, Bf, F, rfl, i11, b11, o11, hF⟩)
    | (go_at_call 12; (with_reducible refine (FX.out _ i11).mono ?_); rintro e w12 ⟨rfl, i12, b12⟩)
    | (go_at_call 13; (with_reducible refine (SP.out _ _ _ (((lies9.below b10 (Nat.le_refl _)).below b11 (Nat.le_refl _)).below b12 (Nat.le_refl _)) i12).mono ?_); rintro e w13 ⟨rfl, i13, b13⟩))
  have hJ : TelJ w B w10.heap.size x y b m G F L R cp Bf w13 :=
    ⟨(hfin.out _ i13).1, (hfin.out _ i13).2, ((l10.below b11 l10.lt).below b12 (l10.below b11 l10.lt).lt).below b13 ((l10.below b11 l10.lt).below b12 (l10.below b11 l10.lt).lt).lt, (o11.below b12).below b13⟩
  have hg9 := (own9.lt)
  have own13 := own_below (own_below (own_below (own_below own9 b10 (Nat.le_refl _)) b11 (Nat.le_refl _)) b12 (Nat.le_refl _)) b13 (Nat.le_refl _)
  have hgD : Hid (∀ k, (Value.slice ao9 ps.length cap9).ownBlock = some k → B + 1 ≤ k ∧ k < w10.heap.size) := fun k hk => by
    have := own9.lt k hk
    have := b10.size
    omega
  obtain ⟨M, hM⟩ : ∃ M, M = ps.length := ⟨_, rfl⟩
  rw [← hM] at own13 hgD hl ⊢
  generalize w10.heap.size = DD at *
  clear NK RK FX SP hI0 hfin OW0 LI0 own9 lies9 hs9 i9 i10 l10 b10 i11 b11 o11 i12 b12 i13 b13 hg9 hM hl2 hcap
  go_loopw [12] (fun i wr => ∃ k : Nat, ∃ xs : List Value, k ≤ M ∧ i = .int .i64 k ∧ TelJ w B DD x y b m G F L R cp Bf wr ∧ wr.ownsRow (B + 1) 23 2 (.slice ao9 M cap9) M xs) (fun i _ => M - (intOf i).toNat)
  case atStart => exact ⟨0, _, by omega, rfl, hJ, own13⟩
  case round =>
    obtain ⟨k, xs, hk, rfl, hJ, ow⟩ := hrel
    by_cases hlt : k < M
    · have hki : (k : Int) < (M : Int) := by omega
      obtain ⟨g, rfl, hgB, hfz, hcs, C, hC⟩ := own_open ow (by omega)
      obtain ⟨u0, c0⟩ := hcs (k * 2) (by omega)
      obtain ⟨u1, c1⟩ := hcs (k * 2 + 1) (by omega)
      have hgb := not51 hC (by decide) hJ.isl
      have hgd := (hgD.out g rfl).2
      have J1 := (hJ.put hgB hgd hgb (k * 2) (.int .i64 (-1))).put hgB hgd hgb (k * 2 + 1) (.int .i64 (-1))
      obtain ⟨xs1, ow1⟩ := own_set ow (k * 2) (.int .i64 (-1))
      obtain ⟨xs2, ow2⟩ := own_set ow1 (k * 2 + 1) (.int .i64 (-1))
      clear hcs hC ow ow1 own13
      go_wp2
      first
        | exact ⟨⟨k + 1, _, by omega, by go_num, J1, ow2⟩, by simp [intOf]; omega⟩
        | (refine ⟨?_, by simp [intOf]; omega⟩; repeat apply Exists.intro; exact ⟨⟨k + 1, _, by omega, by go_num, J1, ow2⟩, rfl⟩)
    · have hkM : k = M := by omega
      subst hkM
      have hd0 : decide ((k : Int) < (k : Int)) = false := by simp
      obtain ⟨w2, rfl⟩ : ∃ w2, w2 = wr := ⟨_, rfl⟩
      obtain ⟨I2, hI2⟩ : ∃ I2 : World → Prop, I2 = fun w1 => Below w2.heap.size w2 w1 := ⟨_, rfl⟩
      have st2 : Stays I2 := by rw [hI2]; exact stays_below w2
      have g2 : I2 w2 := by rw [hI2]; exact Below.refl _ _
      have hJ2 : ∀ w1, I2 w1 → TelJ w B DD x y b m G F L R cp Bf w1 := by rw [hI2]; exact fun w1 q => TelJ.stays w2 w1 hJ q
      have hq1 : ∀ w1, I2 w1 → IsL w1 b m G := fun w1 q => (hJ2 w1 q).isl
      have hqR : ∀ w1, I2 w1 → IsR w1 L R cp Bf m F := fun w1 q => (hJ2 w1 q).own.is
      have hcn : Hid (∀ w1, I2 w1 → w1.cell? ⟨L, 0, none⟩ = some (.int .i64 (m : Int))) := fun w1 q => (hqR w1 q).count
      have hx0 : Hid (∀ w1, I2 w1 → w1.cell? ⟨B, 0, none⟩ = some (.int .i64 x)) := fun w1 q => by rw [cell_of_row _ _ _ _ _ _ (hJ2 w1 q).box]; rfl
      have hx1 : Hid (∀ w1, I2 w1 → w1.cell? ⟨B, 1, none⟩ = some (.int .i64 y)) := fun w1 q => by rw [cell_of_row _ _ _ _ _ _ (hJ2 w1 q).box]; rfl
      have hfn : Hid (∀ w1, I2 w1 → Below B w w1) := fun w1 q => (hJ2 w1 q).bel
      have hput : Hid (∀ w1 g, w2.heap.size ≤ g → I2 w1 → ∀ o v, I2 (w1.setCell ⟨g, o, none⟩ v)) := by rw [hI2]; exact fun w1 g hg q o v => q.setCell hg v
      have hdr : Hid (∀ w1, I2 w1 → I2 w1.drew) := by rw [hI2]; exact fun w1 q => q.drew
      have hsz2 : Hid (∀ w1, I2 w1 → w2.heap.size ≤ w1.heap.size) := by rw [hI2]; exact fun w1 q => q.size
      have hpre := HLT.out.pre
      have hF' := hF.out
      have hFt : ∀ i j, i < m → j < m → turn F i j = turn G i j := fun i j hi hj => hF' j i hj hi
      have FL := Lib.hid (fun p q w1 h => inv_flows st2 hq1 m8 p q w1 h)
      have JN := Lib.hid (fun p q w1 h => inv_join st2 hq1 m8 p q w1 h)
      have MT := Lib.hid (fun p q w1 h => inv_meet st2 hq1 m8 p q w1 h)
      have RF : Hid (∀ p q w1, I2 w1 → Calls Try.prog 15 #[.pointer (some ⟨L, 0, none⟩), .int .i64 p, .int .i64 q] w1 fun e w' => e = .returned (.bool (flB m G p q)) ∧ I2 w') := fun p q w1 h => by
        rw [← flB_below hF' p q]; exact inv_rflows hqR p q w1 h
      have RJ : Hid (∀ p q w1, I2 w1 → Calls Try.prog 17 #[.pointer (some ⟨L, 0, none⟩), .int .i64 p, .int .i64 q] w1 fun e w' => e = .returned (.int .i64 (lstI G m p q)) ∧ I2 w') := fun p q w1 h => by
        rw [← rjI_any hF' hpre HOFF.out m8 p q]; exact inv_rjoin hqR m8 p q w1 h
      have RM : Hid (∀ p q w1, I2 w1 → Calls Try.prog 19 #[.pointer (some ⟨L, 0, none⟩), .int .i64 p, .int .i64 q] w1 fun e w' => e = .returned (.int .i64 (lstI (turn G) m p q)) ∧ I2 w') := fun p q w1 h => by
        rw [← rjI_any hFt (turn_pre hpre) HOFF.out.turn m8 p q]; exact inv_rmeet hqR m8 p q w1 h
      have m8i : (m : Int) ≤ 8 := by omega
      have m0i : (0 : Int) ≤ (m : Int) := by omega
      clear hJ hJ2 ow own13 hgD hI2
      go_wp2
      go_loopw [13] (fun i wr => ∃ a : Int, -1 ≤ a ∧ a ≤ m + 2 ∧ i = .int .i64 a ∧ I2 wr) (fun i _ => ((m : Int) + 2 - intOf i).toNat)
      case atStart => exact ⟨-1, by omega, by omega, rfl, g2⟩
      case round =>
        obtain ⟨a, ha0, ha1, rfl, gr⟩ := hrel
        have cn := hcn.out _ gr
        clear g2
        by_cases hla : a ≤ (m : Int) + 1
        · obtain ⟨wo, rfl⟩ : ∃ wo : World, wo = wr := ⟨_, rfl⟩
          go_wp2
          go_loopw [14] (fun i wr => ∃ c : Int, -1 ≤ c ∧ c ≤ m + 2 ∧ i = .int .i64 c ∧ I2 wr) (fun i _ => ((m : Int) + 2 - intOf i).toNat)
          case atStart => exact ⟨-1, by omega, by omega, rfl, gr⟩
          case round =>
            obtain ⟨c, hc0, hc1, rfl, gr2⟩ := hrel
            clear gr cn
            have cn := hcn.out _ gr2
            have cx := hx0.out _ gr2
            have cy := hx1.out _ gr2
            by_cases hlc : c ≤ (m : Int) + 1
            · obtain ⟨p, hp⟩ : ∃ p, p = if (m : Int) < a then x else a := ⟨_, rfl⟩
              obtain ⟨q, hq⟩ : ∃ q, q = if (m : Int) < c then y else c := ⟨_, rfl⟩
              have F1 := Lib.hid (FL.out p q)
              have F2 := Lib.hid (RF.out p q)
              have F3 := Lib.hid (JN.out p q)
              have F4 := Lib.hid (RJ.out p q)
              have F5 := Lib.hid (MT.out p q)
              have F6 := Lib.hid (RM.out p q)
              generalize flB m G p q = X at *
              generalize lstI G m p q = J at *
              generalize lstI (turn G) m p q = K at *
              have e1 : (X != X) = false := by simp
              have e2 : (J != J) = false := by simp
              have e3 : (K != K) = false := by simp
              clear FL RF JN RJ MT RM
              by_cases da : (m : Int) < a <;> by_cases db : (m : Int) < c <;> simp only [da, db, if_true, if_false] at hp hq
              all_goals
                rw [hp, hq] at F1 F2 F3 F4 F5 F6
                try (have d7 : decide ((m : Int) < a) = false := by simp; omega)
                try (have d8 : decide ((m : Int) < c) = false := by simp; omega)
                clear hp hq
                go_wp2_with (first
                  | (go_at_call 14; (with_reducible refine (F1.out _ (by assumption)).mono ?_); rintro e w' ⟨rfl, gg⟩)
                  | (go_at_call 15; (with_reducible refine (F2.out _ (by assumption)).mono ?_); rintro e w' ⟨rfl, gg⟩)
                  | (go_at_call 16; (with_reducible refine (F3.out _ (by assumption)).mono ?_); rintro e w' ⟨rfl, gg⟩)
                  | (go_at_call 17; (with_reducible refine (F4.out _ (by assumption)).mono ?_); rintro e w' ⟨rfl, gg⟩)
                  | (go_at_call 18; (with_reducible refine (F5.out _ (by assumption)).mono ?_); rintro e w' ⟨rfl, gg⟩)
                  | (go_at_call 19; (with_reducible refine (F6.out _ (by assumption)).mono ?_); rintro e w' ⟨rfl, gg⟩))
                first
                  | exact ⟨⟨c + 1, by omega, by omega, rfl, gg⟩, by simp [intOf]; omega⟩
                  | (refine ⟨?_, by simp [intOf]; omega⟩; repeat apply Exists.intro; exact ⟨⟨c + 1, by omega, by omega, rfl, gg⟩, rfl⟩)
            · have hd5 : decide (c ≤ (m : Int) + 1) = false := by simp; omega
              have AB : Hid (∀ w1, I2 w1 → Calls Try.prog 20 #[.pointer (some ⟨b, 0, none⟩), .int .i64 a] w1 fun e w' => ∃ ao cap, e = .returned (.slice ao (lvlL m G a).length cap) ∧ w'.ownsRow w1.heap.size 3 1 (.slice ao (lvlL m G a).length cap) (lvlL m G a).length ((lvlL m G a).map cellI) ∧ LiesI w' ao (lvlL m G a) ∧ I2 w' ∧ Below w1.heap.size w1 w') := fun w1 h =>
                (above_any b m G a w1 m8 (hq1 w1 h)).mono fun e w' ⟨v, h1, h2, h3⟩ => by
                  obtain ⟨ao, cap, rfl, hl⟩ := own_ints h2
                  exact ⟨ao, cap, h1, h2, hl, st2 w1 w' h h3, h3⟩
              have UN : Hid (∀ w1, I2 w1 → Calls Try.prog 21 #[.pointer (some ⟨b, 0, none⟩), .int .i64 a] w1 fun e w' => ∃ ao cap, e = .returned (.slice ao (lvlL m (turn G) a).length cap) ∧ w'.ownsRow w1.heap.size 3 1 (.slice ao (lvlL m (turn G) a).length cap) (lvlL m (turn G) a).length ((lvlL m (turn G) a).map cellI) ∧ LiesI w' ao (lvlL m (turn G) a) ∧ I2 w' ∧ Below w1.heap.size w1 w') := fun w1 h =>
                (under_any b m G a w1 m8 (hq1 w1 h)).mono fun e w' ⟨v, h1, h2, h3⟩ => by
                  obtain ⟨ao, cap, rfl, hl⟩ := own_ints h2
                  exact ⟨ao, cap, h1, h2, hl, st2 w1 w' h h3, h3⟩
              have RA : Hid (∀ w1, I2 w1 → Calls Try.prog 23 #[.pointer (some ⟨L, 0, none⟩), .int .i64 a] w1 fun e w' => ∃ ao cap, e = .returned (.slice ao (lvlL m G a).length cap) ∧ LiesI w' ao (lvlL m G a) ∧ I2 w' ∧ Below w1.heap.size w1 w') := fun w1 h =>
                (inv_rabove st2 hqR m8 a w1 h).mono fun e w' ⟨v, h1, h2, h3⟩ => by
                  rw [rabL_lvl hF.out HOFF.out m8] at h2
                  obtain ⟨ao, cap, rfl, hl⟩ := own_ints h2
                  exact ⟨ao, cap, h1, hl, st2 w1 w' h h3, h3⟩
              have RU : Hid (∀ w1, I2 w1 → Calls Try.prog 24 #[.pointer (some ⟨L, 0, none⟩), .int .i64 a] w1 fun e w' => ∃ ao cap, e = .returned (.slice ao (lvlL m (turn G) a).length cap) ∧ LiesI w' ao (lvlL m (turn G) a) ∧ I2 w' ∧ Below w1.heap.size w1 w') := fun w1 h =>
                (inv_rbelow st2 hqR m8 a w1 h).mono fun e w' ⟨v, h1, h2, h3⟩ => by
                  rw [rabL_lvl (F := turn F) (G := turn G) (fun i j hi hj => hF.out j i hj hi) HOFF.out.turn m8] at h2
                  obtain ⟨ao, cap, rfl, hl⟩ := own_ints h2
                  exact ⟨ao, cap, h1, hl, st2 w1 w' h h3, h3⟩
              have SM : Hid (∀ (l : List Nat), l.length ≤ 1000 → ∀ ao1 cap1 ao2 cap2 w1, LiesI w1 ao1 l → LiesI w1 ao2 l → I2 w1 → Calls Try.prog 22 #[.slice ao1 l.length cap1, .slice ao2 l.length cap2] w1 fun e w' => e = .returned (.bool true) ∧ I2 w' ∧ Below w1.heap.size w1 w') := fun l hl ao1 cap1 ao2 cap2 w1 h1 h2 h3 =>
                (same_any ao1 ao2 cap1 cap2 l w1 hl h1 h2).mono fun e w' ⟨q, k, hk⟩ => by
                  have bb := below_drewN (Below.refl w1.heap.size w1) k
                  rw [← hk] at bb
                  exact ⟨q, st2 w1 w' h3 bb, bb⟩
              have hlc : (lvlL m G a).length ≤ 8 := lvlL_le m G a
              have hld : (lvlL m (turn G) a).length ≤ 8 := lvlL_le m (turn G) a
              have SMc := Lib.hid (SM.out (lvlL m G a) (by omega))
              have SMd := Lib.hid (SM.out (lvlL m (turn G) a) (by omega))
              generalize lvlL m G a = lc at *
              generalize lvlL m (turn G) a = ld at *
              obtain ⟨Nc, hNc⟩ : ∃ N, N = lc.length := ⟨_, rfl⟩
              obtain ⟨Nd, hNd⟩ : ∃ N, N = ld.length := ⟨_, rfl⟩
              rw [← hNc] at AB RA SMc hlc
              rw [← hNd] at UN RU SMd hld
              have HNc := Lib.hid hNc
              have HNd := Lib.hid hNd
              clear hNc hNd FL RF JN RJ MT RM SM cx cy
              go_wp2
              clear cn
              go_loopw [17] (fun i wr => ∃ t : Nat, t ≤ 2 ∧ i = .int .i64 t ∧ I2 wr) (fun i _ => 2 - (intOf i).toNat)
              case atStart => exact ⟨0, by omega, rfl, gr2⟩
              case round =>
                obtain ⟨t, ht, rfl, gr3⟩ := hrel
                clear gr2
                by_cases hlt : t < 2
                · have hti : (t : Int) < 2 := by omega
                  go_wp2_with (first
                    | (go_at_call 20; (with_reducible refine (AB.out _ gr3).mono ?_); rintro e v1 ⟨a1, c1, rfl, ow1, li1, i1, b1⟩)
                    | (go_at_call 21; (with_reducible refine (UN.out _ i1).mono ?_); rintro e v2 ⟨a2, c2, rfl, ow2, li2, i2, b2⟩)
                    | (go_at_call 23; (with_reducible refine (RA.out _ i2).mono ?_); rintro e v3 ⟨a3, c3, rfl, li3, i3, b3⟩)
                    | (go_at_call 24; (with_reducible refine (RU.out _ i4).mono ?_); rintro e v5 ⟨a5, c5, rfl, li5, i5, b5⟩)
                    | (go_at_call 22; (with_reducible refine (SMc.out _ _ _ _ _ ((li1.below b2 (Nat.le_refl _)).below b3 (Nat.le_refl _)) li3 i3).mono ?_); rintro e v4 ⟨rfl, i4, b4⟩)
                    | (go_at_call 22; (with_reducible refine (SMd.out _ _ _ _ _ (((li2.below b3 (Nat.le_refl _)).below b4 (Nat.le_refl _)).below b5 (Nat.le_refl _)) li5 i5).mono ?_); rintro e v6 ⟨rfl, i6, b6⟩))
                  have hS1 := hsz2.out _ gr3
                  have hS2 := hsz2.out _ i1
                  have hap : Hid (∀ g, a1 = some ⟨g, 0, none⟩ → (Value.slice a2 Nd c2).ownBlock ≠ some g) := fun g hg e => by
                    have h1 := (ow1.lt g (by rw [hg]; rfl)).2
                    have h2 := (ow2.lt g e).1
                    omega
                  have OC := own_lower (own_below (own_below (own_below (own_below (own_below ow1 b2 (Nat.le_refl _)) b3 (Nat.le_refl _)) b4 (Nat.le_refl _)) b5 (Nat.le_refl _)) b6 (Nat.le_refl _)) hS1
                  have OD := own_lower (own_below (own_below (own_below (own_below ow2 b3 (Nat.le_refl _)) b4 (Nat.le_refl _)) b5 (Nat.le_refl _)) b6 (Nat.le_refl _)) hS2
                  clear ow1 ow2 li1 li2 li3 li5 i1 i2 i3 i4 i5 b1 b2 b3 b4 b5 b6 gr3 AB UN RA RU SMc SMd hS1 hS2
                  go_loopw [20] (fun i wr => ∃ j : Nat, ∃ xs ys : List Value, j ≤ Nc ∧ i = .int .i64 j ∧ I2 wr ∧ wr.ownsRow w2.heap.size 3 1 (.slice a1 Nc c1) Nc xs ∧ wr.ownsRow w2.heap.size 3 1 (.slice a2 Nd c2) Nd ys) (fun i _ => Nc - (intOf i).toNat)
                  case atStart => exact ⟨0, _, _, by omega, rfl, i6, OC, OD⟩
                  case round =>
                    obtain ⟨j, xs, ys, hj, rfl, gr4, oc, od⟩ := hrel
                    clear i6 OC OD
                    by_cases hlj : j < Nc
                    · have hji : (j : Int) < (Nc : Int) := by omega
                      obtain ⟨g, rfl, hgB, hfz, hcs, _, _⟩ := own_open oc (by omega)
                      obtain ⟨u0, c0⟩ := hcs j (by omega)
                      have i7 := hput.out _ g hgB gr4 j (.int .i64 (-1))
                      obtain ⟨xs2, oc2⟩ := own_set oc j (.int .i64 (-1))
                      have od2 := own_other od (hap.out g rfl) j (.int .i64 (-1))
                      clear hcs oc od gr4
                      go_wp2
                      first
                        | exact ⟨⟨j + 1, _, _, by omega, by go_num, i7, oc2, od2⟩, by simp [intOf]; omega⟩
                        | (refine ⟨?_, by simp [intOf]; omega⟩; repeat apply Exists.intro; exact ⟨⟨j + 1, _, _, by omega, by go_num, i7, oc2, od2⟩, rfl⟩)
                    · have hd7 : decide ((j : Int) < (Nc : Int)) = false := by simp; omega
                      clear oc
                      go_wp2
                      go_loopw [21] (fun i wr => ∃ j : Nat, ∃ ys : List Value, j ≤ Nd ∧ i = .int .i64 j ∧ I2 wr ∧ wr.ownsRow w2.heap.size 3 1 (.slice a2 Nd c2) Nd ys) (fun i _ => Nd - (intOf i).toNat)
                      case atStart => exact ⟨0, _, by omega, rfl, gr4, od⟩
                      case round =>
                        obtain ⟨j, ys, hj, rfl, gr5, od⟩ := hrel
                        clear gr4
                        by_cases hlj : j < Nd
                        · have hji : (j : Int) < (Nd : Int) := by omega
                          obtain ⟨g, rfl, hgB, hfz, hcs, _, _⟩ := own_open od (by omega)
                          obtain ⟨u0, c0⟩ := hcs j (by omega)
                          have i7 := hput.out _ g hgB gr5 j (.int .i64 (-1))
                          obtain ⟨ys2, od2⟩ := own_set od j (.int .i64 (-1))
                          clear hcs od gr5
                          go_wp2
                          first
                            | exact ⟨⟨j + 1, _, by omega, by go_num, i7, od2⟩, by simp [intOf]; omega⟩
                            | (refine ⟨?_, by simp [intOf]; omega⟩; repeat apply Exists.intro; exact ⟨⟨j + 1, _, by omega, by go_num, i7, od2⟩, rfl⟩)
                        · have hd8 : decide ((j : Int) < (Nd : Int)) = false := by simp; omega
                          clear od
                          go_wp2
                          first
                            | exact ⟨⟨t + 1, by omega, by go_num, gr5⟩, by simp [intOf]; omega⟩
                            | (refine ⟨?_, by simp [intOf]; omega⟩; repeat apply Exists.intro; exact ⟨⟨t + 1, by omega, by go_num, gr5⟩, rfl⟩)
                · have hd6 : decide ((t : Int) < 2) = false := by simp; omega
                  go_wp2
                  first
                    | exact ⟨⟨a + 1, by omega, by omega, rfl, gr3⟩, by simp [intOf]; omega⟩
                    | (refine ⟨?_, by simp [intOf]; omega⟩; repeat apply Exists.intro; exact ⟨⟨a + 1, by omega, by omega, rfl, gr3⟩, rfl⟩)
        · have hd5 : decide (a ≤ (m : Int) + 1) = false := by simp; omega
          have LV : Hid (∀ w1, I2 w1 → Calls Try.prog 25 #[.pointer (some ⟨b, 0, none⟩)] w1 fun e w' => e = .returned (.int .i64 (m : Int)) ∧ I2 w' ∧ w'.cell? ⟨L, 0, none⟩ = some (.int .i64 (m : Int))) := fun w1 h =>
            (inv_levels st2 hq1 w1 h).mono fun e w' ⟨h1, h2⟩ => ⟨h1, h2, hcn.out _ h2⟩
          have TP : Hid (∀ w1, I2 w1 → Calls Try.prog 26 #[.pointer (some ⟨b, 0, none⟩)] w1 fun e w' => e = .returned (.int .i64 (topI (lstI G m) m)) ∧ I2 w' ∧ w'.cell? ⟨L, 0, none⟩ = some (.int .i64 (m : Int))) := fun w1 h =>
            (inv_top st2 hq1 m8 w1 h).mono fun e w' ⟨h1, h2⟩ => ⟨h1, h2, hcn.out _ h2⟩
          have BT : Hid (∀ w1, I2 w1 → Calls Try.prog 28 #[.pointer (some ⟨b, 0, none⟩)] w1 fun e w' => e = .returned (.int .i64 (topI (lstI (turn G) m) m)) ∧ I2 w' ∧ w'.cell? ⟨L, 0, none⟩ = some (.int .i64 (m : Int))) := fun w1 h =>
            (inv_bottom st2 hq1 m8 w1 h).mono fun e w' ⟨h1, h2⟩ => ⟨h1, h2, hcn.out _ h2⟩
          have RT : Hid (∀ w1, I2 w1 → Calls Try.prog 27 #[.pointer (some ⟨L, 0, none⟩)] w1 fun e w' => e = .returned (.int .i64 (topI (lstI G m) m)) ∧ I2 w' ∧ w'.cell? ⟨L, 0, none⟩ = some (.int .i64 (m : Int))) := fun w1 h => by
            rw [← top_same HLT.out hF']
            exact (inv_rtop st2 hqR m8 w1 h).mono fun e w' ⟨h1, h2⟩ => ⟨h1, st2 w1 w' h h2, hcn.out _ (st2 w1 w' h h2)⟩
          have RB : Hid (∀ w1, I2 w1 → Calls Try.prog 29 #[.pointer (some ⟨L, 0, none⟩)] w1 fun e w' => e = .returned (.int .i64 (topI (lstI (turn G) m) m)) ∧ I2 w' ∧ w'.cell? ⟨L, 0, none⟩ = some (.int .i64 (m : Int))) := fun w1 h => by
            rw [← top_same HLT.out.turned hFt]
            exact (inv_rbottom st2 hqR m8 w1 h).mono fun e w' ⟨h1, h2⟩ => ⟨h1, st2 w1 w' h h2, hcn.out _ (st2 w1 w' h h2)⟩
          have PR : Hid (∀ w1, I2 w1 → Calls Try.prog 30 #[.pointer (some ⟨b, 0, none⟩)] w1 fun e w' => ∃ ao cap, e = .returned (.slice ao (prsL m G m).length cap) ∧ LiesP w' ao (natP (prsL m G m)) ∧ I2 w' ∧ w'.cell? ⟨L, 0, none⟩ = some (.int .i64 (m : Int))) := fun w1 h =>
            (inv_pairs st2 hq1 m8 w1 h).mono fun e w' ⟨ao, cap, h1, h2, _, h3, _⟩ => ⟨ao, cap, h1, h2, h3, hcn.out _ h3⟩
          have RP : Hid (∀ w1, I2 w1 → Calls Try.prog 31 #[.pointer (some ⟨L, 0, none⟩)] w1 fun e w' => ∃ ao cap, e = .returned (.slice ao (prsL m G m).length cap) ∧ LiesP w' ao (natP (prsL m G m)) ∧ I2 w' ∧ w'.cell? ⟨L, 0, none⟩ = some (.int .i64 (m : Int)) ∧ Below w1.heap.size w1 w') := fun w1 h =>
            (inv_rpairs st2 hqR m8 w1 h).mono fun e w' ⟨v, h1, h2, h3⟩ => by
              rw [prsC_same hF', ← HLT.out.prs] at h2
              have e2 : (natP (prsL m G m)).length = (prsL m G m).length := by simp [natP]
              rw [flat_nat, ← e2] at h2
              obtain ⟨ao, cap, rfl, hl, hc⟩ := own_pairsI h2
              rw [e2] at h1
              exact ⟨ao, cap, h1, hl, st2 w1 w' h h3, hcn.out _ (st2 w1 w' h h3), h3⟩
          have hnl : (natP (prsL m G m)).length = (prsL m G m).length := by simp [natP]
          have hnp : (natP (prsL m G m)).length ≤ 140737488355328 := by
            rw [hnl]
            have h1 := prsL_len m G m
            have h2 : m * m ≤ 8 * 8 := Nat.mul_le_mul m8 m8
            omega
          have SP : Hid (∀ ao1 cap1 ao2 cap2 w1, LiesP w1 ao1 (natP (prsL m G m)) → LiesP w1 ao2 (natP (prsL m G m)) → I2 w1 → Calls Try.prog 13 #[.slice ao1 (prsL m G m).length cap1, .slice ao2 (prsL m G m).length cap2] w1 fun e w' => e = .returned (.bool true) ∧ I2 w' ∧ w'.cell? ⟨L, 0, none⟩ = some (.int .i64 (m : Int))) := fun ao1 cap1 ao2 cap2 w1 h1 h2 h3 => by
            have := samep_any ao1 ao2 cap1 cap2 _ w1 hnp h1 h2
            rw [hnl] at this
            refine this.mono fun e w' ⟨q, k, hk⟩ => ?_
            have bb := below_drewN (Below.refl w1.heap.size w1) k
            rw [← hk] at bb
            exact ⟨q, st2 w1 w' h3 bb, hcn.out _ (st2 w1 w' h3 bb)⟩
          have gd := hdr.out _ gr
          have cd : wr.drew.cell? ⟨L, 0, none⟩ = some (.int .i64 (m : Int)) := hcn.out _ gd
          generalize topI (lstI G m) m = T1 at *
          generalize topI (lstI (turn G) m) m = T2 at *
          generalize natP (prsL m G m) = PL at *
          generalize (prsL m G m).length = PN at *
          have q1 : ((m : Int) == (m : Int)) = true := by simp
          have q2 : (T1 == T1) = true := by simp
          have q3 : (T2 == T2) = true := by simp
          clear FL RF JN RJ MT RM hnl hnp gr hF' hFt hpre hq1 hqR
          go_wp2_with fail
          clear cn
          go_region_held3 (fun w' => w'.cell? ⟨L, 0, none⟩ = some (.int .i64 (m : Int)))
            (first | exact cd | exact k25 | exact k26 | exact k27 | exact k28 | exact k29 | exact k30 | exact k31 | exact k13)
            (first
              | (go_at_call 25; (with_reducible refine (LV.out _ (by assumption)).mono ?_); rintro e v25 ⟨rfl, i25, k25⟩)
              | (go_at_call 26; (with_reducible refine (TP.out _ (by assumption)).mono ?_); rintro e v26 ⟨rfl, i26, k26⟩)
              | (go_at_call 27; (with_reducible refine (RT.out _ (by assumption)).mono ?_); rintro e v27 ⟨rfl, i27, k27⟩)
              | (go_at_call 28; (with_reducible refine (BT.out _ (by assumption)).mono ?_); rintro e v28 ⟨rfl, i28, k28⟩)
              | (go_at_call 29; (with_reducible refine (RB.out _ (by assumption)).mono ?_); rintro e v29 ⟨rfl, i29, k29⟩)
              | (go_at_call 30; (with_reducible refine (PR.out _ (by assumption)).mono ?_); rintro e v30 ⟨a30, c30, rfl, l30, i30, k30⟩)
              | (go_at_call 31; (with_reducible refine (RP.out _ (by assumption)).mono ?_); rintro e v31 ⟨a31, c31, rfl, l31, i31, k31, b31⟩)
              | (go_at_call 13; (with_reducible refine (SP.out _ _ _ _ _ (l30.below b31 (Nat.le_refl _)) l31 i31).mono ?_); rintro e v13 ⟨rfl, i13, k13⟩))
          all_goals
            go_wp2
            have hf := hfn.out _ i13
            go_ret
            exact ⟨rfl, hf⟩
theorem tells_walk (n : Int) (ao : Option Addr) (cap : Nat) (ps : List (Int × Int)) (x y : Int) (w : World) (hl : ps.length ≤ 8796093022000) (hP : LiesP w ao ps) (hcap : ao = none → cap = 0) :
    Calls Try.prog 3 #[.int .i64 n, .slice ao ps.length cap, .agg #[.int .i64 x, .int .i64 y]] w fun e w' => e = .returned (.bool true) ∧ Below w.heap.size w w' := by
  by_cases he : newE n ps = 0
  · obtain ⟨m, rfl⟩ : ∃ m : Nat, n = (m : Int) := ⟨n.toNat, by have := newE_ok he; omega⟩
    exact tells_yes m ao cap ps x y w hl hP hcap he
  · exact tells_no n ao cap ps x y w hl hP hcap he
end Go.Proofs.Ytbkpfiagoinoiaa
