/- What a world holds of an extent; where a block stands in its cache. No conditions. -/
import Derived.Test.YtnecbbflcpngcaaDel
import Derived.Test.YtnecbbflcpngcaaMad
import Derived.Maps.AppendAt
import Derived.Laws.ResultCell
namespace Go.Proofs.Ytnecbbflcpngcaa
open Go.RowKit Go.Maps Go.Lib
set_option maxRecDepth 20000
set_option linter.unusedVariables false

structure Dv where
  first : Nat
  cnt : Nat
  l : List Bk
  most : Nat
  mis : Nat
structure Dv.ok (V : Dv) : Prop where
  cnt : 1 ≤ V.cnt
  hi : V.first + V.cnt ≤ 4096
  most : V.most ≤ 16
  len : V.l.length ≤ V.most
def dvCells (p : Nat) (v : Value) (V : Dv) : Array Value := #[.pointer (some ⟨p, 0, none⟩), .int .i64 (V.first : Int), .int .i64 (V.cnt : Int), v, .int .i64 (V.most : Int), .int .i64 (V.mis : Int)]
/-- an extent V over the disk at p lies at x, its blocks in F -/
def IsV (w : World) (F : Nat → Prop) (x p : Nat) (V : Dv) : Prop :=
  F x ∧ ∃ v, w.heap[x]? = some (.cells (dvCells p v V) 99 (0, 0)) ∧ w.ownsRow 0 105 3 v V.l.length (rowL V.l) ∧ (∀ j, v.ownBlock = some j → F j) ∧ V.l.length ≤ 17
theorem own_tag {w : World} {b e s n : Nat} {v : Value} {xs : List Value} (h : w.ownsRow b e s v n xs) {j : Nat} (hj : v.ownBlock = some j) : ∃ cur, w.heap[j]? = some (.cells cur e (0, 0)) := by
  rcases h.2 with ⟨e1, _⟩ | ⟨g, c, cur, e1, hb, hg, _⟩
  · rw [e1] at hj; cases hj
  · rw [e1] at hj; injection hj with hj; subst hj; exact ⟨cur, hg⟩
theorem own_ne {w : World} {b s n : Nat} {v : Value} {xs : List Value} (h : w.ownsRow b 105 s v n xs) {x : Nat} {C : Array Value} {fr : Nat × Nat} (hx : w.heap[x]? = some (.cells C 99 fr)) {j : Nat} (hj : v.ownBlock = some j) : j ≠ x := by
  obtain ⟨cur, hg⟩ := own_tag h hj
  intro e; subst e; rw [hg] at hx; injection hx with hx; injection hx with _ hx; cases hx
theorem own_keep {w W : World} {b e s n : Nat} {v : Value} {xs : List Value} (h : w.ownsRow b e s v n xs) (hk : ∀ j, v.ownBlock = some j → W.heap[j]? = w.heap[j]?) : W.ownsRow b e s v n xs := by
  refine ⟨h.1, ?_⟩
  rcases h.2 with e1 | ⟨g, c, cur, e1, h1, hg, h2⟩
  · exact .inl e1
  · exact .inr ⟨g, c, cur, e1, h1, (hk g (by rw [e1]; rfl)).trans hg, h2⟩
theorem own_lt {w : World} {b e s n : Nat} {v : Value} {xs : List Value} (h : w.ownsRow b e s v n xs) {j : Nat} (hj : v.ownBlock = some j) : j < w.heap.size := by
  obtain ⟨cur, hg⟩ := own_tag h hj; exact block_lt hg
theorem IsV.lt {w : World} {F : Nat → Prop} {x p : Nat} {V : Dv} (h : IsV w F x p V) : x < w.heap.size := by obtain ⟨_, v, hx, _⟩ := h; exact block_lt hx
theorem IsV.of_heap {w w' : World} {F : Nat → Prop} {x p : Nat} {V : Dv} (h : IsV w F x p V) (e : ∀ k, k < w.heap.size → F k → w'.heap[k]? = w.heap[k]?) : IsV w' F x p V := by
  obtain ⟨h0, v, hx, ho, hF, few⟩ := h
  exact ⟨h0, v, (e x (block_lt hx) h0).trans hx, own_keep ho fun j hj => e j (own_lt ho hj) (hF j hj), hF, few⟩
theorem IsV.below {w w' : World} {F : Nat → Prop} {x p : Nat} {V : Dv} (h : IsV w F x p V) (hb : Below w.heap.size w w') : IsV w' F x p V := h.of_heap fun k hk _ => hb.block k hk
theorem IsV.mono {w : World} {F F' : Nat → Prop} {x p : Nat} {V : Dv} (h : IsV w F x p V) (e : ∀ k, F k → F' k) : IsV w F' x p V := by
  obtain ⟨h0, v, hx, ho, hF, few⟩ := h
  exact ⟨e _ h0, v, hx, ho, (fun j hj => e _ (hF j hj)), few⟩
theorem own_sl {w : World} {b e s n : Nat} {v : Value} {xs : List Value} (h : w.ownsRow b e s v n xs) : ∃ q cap, v = .slice q n cap := by
  rcases h.2 with ⟨e1, e2⟩ | ⟨g, c, cur, e1, _⟩
  · exact ⟨none, 0, by rw [e1, e2]⟩
  · exact ⟨_, _, e1⟩
def ToV (F : Nat → Prop) (w w' : World) (x p : Nat) (V : Dv) : Prop := ∃ F', IsV w' F' x p V ∧ Gr F F' w w' ∧ Ch F w w'
theorem ToV.of_below {F : Nat → Prop} {w w' : World} {x p : Nat} {V : Dv} (h : IsV w F x p V) (hb : Below w.heap.size w w') : ToV F w w' x p V := ⟨F, h.below hb, Gr.refl _ _ _, Ch.of_below hb⟩
theorem ToV.trans {F F1 : Nat → Prop} {w w1 w2 : World} {x p : Nat} {V : Dv} (g : Gr F F1 w w1) (c : Ch F w w1) (h : ToV F1 w1 w2 x p V) : ToV F w w2 x p V := by
  obtain ⟨F2, i, g2, c2⟩ := h
  exact ⟨F2, i, g.trans g2 c.size c2.size, c.trans g c2⟩
theorem IsV.cells {w : World} {F : Nat → Prop} {x p : Nat} {V : Dv} {v : Value} (h : w.heap[x]? = some (.cells (dvCells p v V) 99 (0, 0))) :
    w.cell? ⟨x, 0, none⟩ = some (.pointer (some ⟨p, 0, none⟩)) ∧ w.cell? ⟨x, 1, none⟩ = some (.int .i64 (V.first : Int)) ∧ w.cell? ⟨x, 2, none⟩ = some (.int .i64 (V.cnt : Int)) ∧ w.cell? ⟨x, 3, none⟩ = some v ∧ w.cell? ⟨x, 4, none⟩ = some (.int .i64 (V.most : Int)) ∧ w.cell? ⟨x, 5, none⟩ = some (.int .i64 (V.mis : Int)) ∧ ∀ o, w.frozen? ⟨x, o, none⟩ = false := by
  refine ⟨?_, ?_, ?_, ?_, ?_, ?_, fun o => block_free h⟩ <;> (rw [cell_of_row w x _ _ _ _ h]; rfl)
set_option maxHeartbeats 1000000 in
theorem placeOf_any (F : Nat → Prop) (x p : Nat) (V : Dv) (a : Int) (w : World) (h : IsV w F x p V) :
    Calls Try.prog 93 #[.pointer (some ⟨x, 0, none⟩), .int .i64 a] w fun e w' => e = .returned (.int .i64 (posI a V.l)) ∧ Below w.heap.size w w' := by
  have hb1 : Below w.heap.size w (w.alloc (.cells #[.int .i64 a] 3)) := (Below.refl _ w).alloc (Nat.le_refl _) _
  obtain ⟨h0, v, hx, ho, hF, few⟩ := h.below hb1
  obtain ⟨_, _, _, c3, _⟩ := IsV.cells (F := F) hx
  have k := idx_any v V.l a w.heap.size _ (by rw [cell_of_row _ _ _ _ _ _ (block_new w _)]; rfl) ho
  have hmf : ∀ W : World, (Instr.makeFunc (Fn.func 103) #[] #[.pointer (some ⟨w.heap.size, 0, none⟩)]).run Try.prog W = .ok (.func (.func 103) #[] #[.pointer (some ⟨w.heap.size, 0, none⟩)]) W := fun W => by kernel_rfl
  have HB1 := Lib.hid hb1
  clear hb1 h h0 hx ho hF
  go_enter Try.func93, Try.ntmps93
  go_wp2_with (go_at_call 102; refine k.mono ?_; rintro e w' ⟨rfl, hb⟩)
  go_ret
  exact ⟨rfl, HB1.out.trans (hb.mono HB1.out.size)⟩
def zeroAg : Value := .agg #[.int .i64 0, .string ByteArray.empty, .int .i64 0]
theorem posL_some {a : Int} : ∀ {l : List Bk}, posL a l < l.length → ∃ b, l[posL a l]? = some b ∧ (b.at' : Int) = a
  | [], h => absurd h (Nat.not_lt_zero _)
  | c :: r, h => by
    unfold posL at h ⊢
    by_cases q : (c.at' : Int) = a
    · rw [if_pos q]; exact ⟨c, rfl, q⟩
    · rw [if_neg q] at h ⊢
      obtain ⟨b, h1, h2⟩ := posL_some (l := r) (by simp at h; omega)
      exact ⟨b, h1, h2⟩
def fndV (a : Int) (l : List Bk) : Value := match l[posL a l]? with | some b => b.agg | none => zeroAg
def fndB (a : Int) (l : List Bk) : Bool := decide (posL a l < l.length)
theorem results_ct {P : Program} {fn : Func} {p u : Tmp} {ty : TypeId} (h : fn.results = #[.cell p ty, .tmp u]) (tmps : Array Value) (w : World) (g : Nat) (t : TypeId) (cs : Array Value) (fr : Nat × Nat) (d : TypeDesc) (v : Value)
    (hp : tmps.getD p undef = .pointer (some ⟨g, 0, none⟩)) (hv : tmps.getD u undef = v) (hg : w.heap[g]? = some (.cells cs t fr))
    (hu : P.underlying ty = some d) (hd : (match d with | .struct _ | .array _ _ => true | _ => false) = true) (hi : (P.info? ty).map (·.size) = some cs.size) :
    (results fn tmps).run P w = .ok (.tuple #[.agg cs, v]) w := by
  rw [results_cell_tmp h, hp, hv]
  simp [asAddr, run_loadVar_row w g t ty cs fr d hg hu hd hi]
theorem setAg3 {w : World} {g : Nat} {u0 u1 u2 : Value} {t : TypeId} {fr : Nat × Nat} (h : w.heap[g]? = some (.cells #[u0, u1, u2] t fr)) (v0 v1 v2 : Value) :
    (((w.setCell ⟨g, 0, none⟩ v0).setCell ⟨g, 1, none⟩ v1).setCell ⟨g, 2, none⟩ v2).heap[g]? = some (.cells #[v0, v1, v2] t fr) := block_setCell (block_setCell (block_setCell h))
theorem results_68 : Try.f68.results = #[.cell 4 105, .tmp 5] := by kernel_rfl
theorem results_69 : Try.f69.results = #[.cell 4 105, .tmp 5] := by kernel_rfl
set_option maxHeartbeats 1000000 in
theorem cached_any (F : Nat → Prop) (x p : Nat) (V : Dv) (a : Int) (w : World) (h : IsV w F x p V) :
    Calls Try.prog 68 #[.pointer (some ⟨x, 0, none⟩), .int .i64 a] w fun e w' => e = .returned (.tuple #[fndV a V.l, .bool (fndB a V.l)]) ∧ Below w.heap.size w w' := by
  have hb1 : Below w.heap.size w (w.alloc (.cells #[.int .i64 0, .string ⟨#[]⟩, .int .i64 0] 105)) := (Below.refl _ w).alloc (Nat.le_refl _) _
  have i1 := h.below hb1
  have kp := placeOf_any F x p V a _ i1
  have HB1 := Lib.hid hb1
  have HI := Lib.hid i1
  by_cases q : posL a V.l < V.l.length
  · have e1 : posI a V.l = (posL a V.l : Int) := by unfold posI; rw [if_pos q]
    have e2 : fndB a V.l = true := decide_eq_true q
    obtain ⟨b, hb, hat⟩ := posL_some q
    clear hat
    have e3 : fndV a V.l = b.agg := by unfold fndV; rw [hb]
    rw [e1] at kp
    rw [e2, e3]
    have HC : Hid (∀ W, Below (w.alloc (.cells #[.int .i64 0, .string ⟨#[]⟩, .int .i64 0] 105)).heap.size (w.alloc (.cells #[.int .i64 0, .string ⟨#[]⟩, .int .i64 0] 105)) W → ∃ g cap, W.cell? ⟨x, 3, none⟩ = some (.slice (some ⟨g, 0, none⟩) V.l.length cap) ∧ W.cell? ⟨g, posL a V.l * 3, none⟩ = some (.int .i64 (b.at' : Int)) ∧ W.cell? ⟨g, posL a V.l * 3 + 1, none⟩ = some (.string (ofL b.data)) ∧ W.cell? ⟨g, posL a V.l * 3 + 2, none⟩ = some (.int .i64 b.st)) := fun W hW => by
      obtain ⟨h0, v, hx, ho, hF, few⟩ := HI.out.below hW
      obtain ⟨_, _, _, c3, _⟩ := IsV.cells (F := F) hx
      rcases ho.2 with ⟨_, z⟩ | ⟨g, c, cur, e1, _⟩
      · omega
      · have hg := ho.cells (g := g) (by rw [e1]; rfl)
        simp only [addr_at, Nat.zero_add] at hg
        refine ⟨g, c, by rw [c3, e1], ?_, ?_, ?_⟩
        · exact hg _ _ (by rw [← Nat.add_zero (posL a V.l * 3), rowL_get _ _ 0 (by omega) b hb]; rfl)
        · exact hg _ _ (by rw [rowL_get _ _ 1 (by omega) b hb]; rfl)
        · exact hg _ _ (by rw [rowL_get _ _ 2 (by omega) b hb]; rfl)
    have hlen : V.l.length ≤ 17 := by obtain ⟨_, _, _, _, _, few⟩ := h; exact few
    generalize posL a V.l = k at *
    generalize V.l.length = n at *
    clear hb1 i1 h e1 e2 e3 hb
    go_enter Try.func68, Try.ntmps68
    go_wp2_with (go_at_call 93; refine kp.mono ?_; rintro e w2 ⟨rfl, hb2⟩; obtain ⟨g, cap, c3, d0, d1, d2⟩ := HC.out w2 hb2; have hr := (hb2.block w.heap.size (by simp)).trans (block_new w _); have e0 : w2.cell? ⟨w.heap.size, 0, none⟩ = some (.int .i64 0) := (by rw [cell_of_row _ _ _ _ _ _ hr]; rfl); have e1 : w2.cell? ⟨w.heap.size, 1, none⟩ = some (.string ⟨#[]⟩) := (by rw [cell_of_row _ _ _ _ _ _ hr]; rfl); have e2 : w2.cell? ⟨w.heap.size, 2, none⟩ = some (.int .i64 0) := (by rw [cell_of_row _ _ _ _ _ _ hr]; rfl); have f0 := block_free (o := 0) hr; have f1 := block_free (o := 1) hr; have f2 := block_free (o := 2) hr; have HR := Lib.hid (And.intro hr (HB1.out.trans (hb2.mono HB1.out.size))); clear hr hb2)
    exact bodyPost_ret_by (results_ct results_68 _ _ w.heap.size 105 _ (0, 0) _ _ rfl rfl (setAg3 HR.out.1 _ _ _) Try.underlying105 rfl (by kernel_rfl)) rfl ⟨rfl, (((HR.out.2.setCell (p := ⟨w.heap.size, 0, none⟩) (Nat.le_refl _) _).setCell (p := ⟨w.heap.size, 1, none⟩) (Nat.le_refl _) _).setCell (p := ⟨w.heap.size, 2, none⟩) (Nat.le_refl _) _)⟩
  · have e1 : posI a V.l = -1 := by unfold posI; rw [if_neg q]
    have e2 : fndB a V.l = false := decide_eq_false q
    have e3 : fndV a V.l = zeroAg := by unfold fndV; rw [List.getElem?_eq_none (by omega)]
    rw [e1] at kp
    rw [e2, e3]
    clear hb1 i1 h e1 e2 e3 q
    go_enter Try.func68, Try.ntmps68
    go_wp2_with (go_at_call 93; refine kp.mono ?_; rintro e w2 ⟨rfl, hb2⟩; have hr := (hb2.block w.heap.size (by simp)).trans (block_new w _); have e0 : w2.cell? ⟨w.heap.size, 0, none⟩ = some (.int .i64 0) := (by rw [cell_of_row _ _ _ _ _ _ hr]; rfl); have e1 : w2.cell? ⟨w.heap.size, 1, none⟩ = some (.string ⟨#[]⟩) := (by rw [cell_of_row _ _ _ _ _ _ hr]; rfl); have e2 : w2.cell? ⟨w.heap.size, 2, none⟩ = some (.int .i64 0) := (by rw [cell_of_row _ _ _ _ _ _ hr]; rfl); have f0 := block_free (o := 0) hr; have f1 := block_free (o := 1) hr; have f2 := block_free (o := 2) hr; have HR := Lib.hid (And.intro hr (HB1.out.trans (hb2.mono HB1.out.size))); clear hr hb2)
    exact bodyPost_ret_by (results_ct results_68 _ _ w.heap.size 105 _ (0, 0) _ _ rfl rfl (setAg3 HR.out.1 _ _ _) Try.underlying105 rfl (by kernel_rfl)) rfl ⟨rfl, (((HR.out.2.setCell (p := ⟨w.heap.size, 0, none⟩) (Nat.le_refl _) _).setCell (p := ⟨w.heap.size, 1, none⟩) (Nat.le_refl _) _).setCell (p := ⟨w.heap.size, 2, none⟩) (Nat.le_refl _) _)⟩
end Go.Proofs.Ytnecbbflcpngcaa
