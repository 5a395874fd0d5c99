/- A journal is laid on an extent, while the power is there. Conditions: ints are within 64 bits. -/
import Derived.Test.YtjippoejaieneaaGreatCml
import Derived.Test.YtjippoejaieneaaGreatJrd
namespace Go.Proofs.YtjippoejaieneaaGreat
open Go.RowKit Go.Maps
set_option maxRecDepth 20000
set_option linter.unusedVariables false

def isA (V : Dv) (a : Int) : Bool := decide (4 ≤ a) && decide (a < (V.cnt : Int))
theorem isArea_any (F : Nat → Prop) (x p : Nat) (S : St) (V : Dv) (a : Int) (w : World) (h : IsE w F x p S V) (hc : V.cnt ≤ 4096) (ha : In64 a) :
    Calls Tryz.prog 71 #[.pointer (some ⟨x, 0, none⟩), .int .i64 a] w fun e w' => e = .returned (.bool (isA V a)) ∧ w = w' := by
  obtain ⟨Fd, Fv, _, hv, _⟩ := h
  have KC := Lib.hid (count_any' Fv x p V w hv)
  clear hv
  unfold In64 at ha
  by_cases q : 4 ≤ a
  · have q1 : decide (4 ≤ a) = true := decide_eq_true q
    by_cases r : a < (V.cnt : Int)
    · have r1 : decide (a < (V.cnt : Int)) = true := decide_eq_true r
      have s1 : ((V.cnt : Int) - a) ≤ 65536 := by omega
      have hw : IntKind.i64.wrap ((V.cnt : Int) - a) = (V.cnt : Int) - a := by rw [IntKind.wrap_i64]; omega
      go_enter Tryz.func71, Tryz.ntmps71
      go_wp2_with (go_at_call 63; (with_reducible refine KC.out.mono ?_); rintro e w1 ⟨rfl, rfl⟩)
      go_ret
      unfold isA
      rw [q1, r1]
      exact ⟨rfl, rfl⟩
    · have r1 : decide (a < (V.cnt : Int)) = false := decide_eq_false r
      go_enter Tryz.func71, Tryz.ntmps71
      go_wp2_with (go_at_call 63; (with_reducible refine KC.out.mono ?_); rintro e w1 ⟨rfl, rfl⟩)
      go_ret
      unfold isA
      rw [q1, r1]
      exact ⟨rfl, rfl⟩
  · have q1 : decide (4 ≤ a) = false := decide_eq_false q
    go_enter Tryz.func71, Tryz.ntmps71
    go_wp2_with (go_at_call 63; (with_reducible refine KC.out.mono ?_); rintro e w1 ⟨rfl, rfl⟩)
    go_ret
    unfold isA
    rw [q1]
    exact ⟨rfl, rfl⟩
theorem idle87 (p q : Addr) (w : World) :
    CallsD Tryz.prog 87 #[.pointer (some p), .pointer (some q)] .returning w fun e u' w' => e = .returned (.tuple #[]) ∧ u' = .returning ∧ w' = w := by
  refine callsD_of_wpS Tryz.func87 rfl fun c₀ cs hu => ?_
  apply wpS_seq
  apply wpS_region
  simp [wpOpsS, go_sem, recoverD, hu, Tryz.ntmps87, Exit.thenS]
  refine wpS_cond (t := false) (by simp [Act.eval, Array.replicate]) ?_
  simp only [Bool.false_eq_true, if_false]
  refine wpS_of_wp (wp_skip ?_)
  cases c₀
  simp_all [bodyPostS, results, Tryz.results87]
theorem idle69 (p q : Addr) (w : World) :
    CallsD Tryz.prog 69 #[.pointer (some p), .pointer (some q)] .returning w fun e u' w' => e = .returned (.tuple #[]) ∧ u' = .returning ∧ w' = w := by
  refine callsD_of_wpS Tryz.func69 rfl fun c₀ cs hu => ?_
  apply wpS_seq
  apply wpS_region
  simp [wpOpsS, go_sem, recoverD, hu, Tryz.ntmps69, Exit.thenS]
  refine wpS_cond (t := false) (by simp [Act.eval, Array.replicate]) ?_
  simp only [Bool.false_eq_true, if_false]
  refine wpS_of_wp (wp_skip ?_)
  cases c₀
  simp_all [bodyPostS, results, Tryz.results69]
/-- a journal whose blocks all lie behind a mark -/
def JAt (w : World) (B j x p : Nat) (S : St) (V : Dv) (J : Jn) : Prop := B ≤ w.heap.size ∧ ∃ F mb, IsJ w F j x p mb S V J ∧ ∀ k, JF F j mb k → B ≤ k
theorem JAt.below {w w' : World} {B j x p : Nat} {S : St} {V : Dv} {J : Jn} (h : JAt w B j x p S V J) (hb : Below w.heap.size w w') : JAt w' B j x p S V J := by
  obtain ⟨h1, F, mb, i, h2⟩ := h
  exact ⟨Nat.le_trans h1 hb.size, F, mb, i.below hb, h2⟩
theorem JAt.of {w w' : World} {B j x p mb : Nat} {F : Nat → Prop} {S : St} {V : Dv} {J : Jn} (hB : B ≤ w.heap.size) (hF : ∀ k, JF F j mb k → B ≤ k) (t : ToJ F w w' j x p mb S V J) : JAt w' B j x p S V J ∧ Below B w w' := by
  obtain ⟨F', mb', i, g, c⟩ := t
  refine ⟨⟨Nat.le_trans hB c.size, F', mb', i, fun k hk => ?_⟩, c.below hB hF⟩
  rcases g k hk with z | z
  · exact hF k z
  · omega
/-- the extent's footprint, within the world -/
theorem EAt.bd {w : World} {B x p : Nat} {S : St} {V : Dv} (h : EAt w B x p S V) : ∃ F, IsE w F x p S V ∧ (∀ k, F k → B ≤ k) ∧ ∀ k, F k → k < w.heap.size := by
  obtain ⟨h1, h2, h3, F, ⟨Fd, Fv, hd, hv, g1, g2⟩, h5⟩ := h
  exact ⟨fun k => F k ∧ k < w.heap.size, ⟨Fd, Fv, hd, hv, fun k hk => ⟨⟨(g1 k hk).1, (g1 k hk).2.2⟩, (g1 k hk).2⟩, fun k hk => ⟨⟨(g2 k hk).1, (g2 k hk).2⟩, (g2 k hk).2⟩⟩, fun k hk => h5 k hk.1, fun k hk => hk.2⟩
theorem IsJ.setCell {w : World} {F : Nat → Prop} {j x p mb b : Nat} {S : St} {V : Dv} {J : Jn} (i : IsJ w F j x p mb S V J) (hn : ¬ JF F j mb b) (u : Value) : IsJ (w.setCell ⟨b, 0, none⟩ u) F j x p mb S V J := by
  have n1 : ¬ F b := fun z => hn (.inl z)
  have n2 : b ≠ j := fun z => hn (.inr (.inl z))
  have n3 : b ≠ mb := fun z => hn (.inr (.inr z))
  have hx := i.jx
  have ch : Ch (fun k => k = b) w (w.setCell ⟨b, 0, none⟩ u) := (Ch.refl (fun k => k = b) w).setCell (p := b) rfl _ _
  exact ⟨⟨(ch.block j hx.lt (fun e => n2 e.symm)).trans hx.blk, hx.ext.of_heap ch.size (fun k hk hF => ch.block k hk (fun e => n1 (by rw [← e]; exact hF))), hx.nj, hx.sok, hx.good, fun k hk => Nat.lt_of_lt_of_le (hx.bd k hk) ch.size⟩, i.map.of_heap (ch.block mb i.map.lt (fun e => n3 e.symm)), i.mF, i.jm, i.ok, i.live⟩
/-- a new journal behind a mark: what the two variables' last stores leave -/
theorem new_fin {w w5 wN : World} {B j x p m b0 b1 : Nat} {F : Nat → Prop} {S' : St} {V' : Dv} {J' : Jn} {u0 u1 : Value} (hB : B ≤ w.heap.size) (hb5 : Below w.heap.size w w5) (hF : ∀ k, JF F j m k → B ≤ k) (hb0 : w.heap.size ≤ b0) (hb1 : w.heap.size ≤ b1) (h01 : b0 ≠ b1)
    (k0 : w5.heap[b0]? = some (.cells #[u0] 41 (0, 0))) (k1 : w5.heap[b1]? = some (.cells #[u1] 29 (0, 0))) (n0 : ¬ JF F j m b0) (n1 : ¬ JF F j m b1) (t : ToJ F w5 wN j x p m S' V' J') (v0 v1 : Value) :
    wN.cell? ⟨b0, 0, none⟩ = some u0 ∧ wN.cell? ⟨b1, 0, none⟩ = some u1 ∧ wN.frozen? ⟨b0, 0, none⟩ = false ∧ wN.frozen? ⟨b1, 0, none⟩ = false ∧
    ((wN.setCell ⟨b0, 0, none⟩ v0).setCell ⟨b1, 0, none⟩ v1).cell? ⟨b0, 0, none⟩ = some v0 ∧ ((wN.setCell ⟨b0, 0, none⟩ v0).setCell ⟨b1, 0, none⟩ v1).cell? ⟨b1, 0, none⟩ = some v1 ∧ JAt ((wN.setCell ⟨b0, 0, none⟩ v0).setCell ⟨b1, 0, none⟩ v1) B j x p S' V' J' ∧ Below B w ((wN.setCell ⟨b0, 0, none⟩ v0).setCell ⟨b1, 0, none⟩ v1) := by
  obtain ⟨F', m', i, g, c⟩ := t
  have e0 := (c.block _ (block_lt k0) n0).trans k0
  have e1 := (c.block _ (block_lt k1) n1).trans k1
  have m0 : ¬ JF F' j m' b0 := fun z => (g b0 z).elim n0 (fun q => by have := block_lt k0; omega)
  have m1 : ¬ JF F' j m' b1 := fun z => (g b1 z).elim n1 (fun q => by have := block_lt k1; omega)
  have a0 := block_setCell (o := 0) (u := v0) e0
  have a0' := (block_setCell_other (w := wN.setCell ⟨b0, 0, none⟩ v0) (x := ⟨b1, 0, none⟩) (u := v1) (by exact h01)).trans a0
  have a1 := (block_setCell_other (w := wN) (x := ⟨b0, 0, none⟩) (u := v0) (by exact fun e => h01 e.symm)).trans e1
  have a1' := block_setCell (o := 0) (u := v1) a1
  have hBN : Below B w wN := (hb5.mono hB).trans (c.below (Nat.le_trans hB hb5.size) hF)
  refine ⟨cell0 e0, cell0 e1, block_free e0, block_free e1, cell0 a0', cell0 a1', ⟨?_, F', m', (i.setCell m0 v0).setCell m1 v1, fun k hk => ?_⟩, (hBN.setCell (p := ⟨b0, 0, none⟩) (Nat.le_trans hB hb0) _).setCell (p := ⟨b1, 0, none⟩) (Nat.le_trans hB hb1) _⟩
  · simp; exact Nat.le_trans hB (Nat.le_trans hb5.size c.size)
  · rcases g k hk with z | z
    · exact hF k z
    · have := hb5.size; omega
/-- the steps of Format, but for the barrier -/
def fmtP (k : Nat) : List Stp := headW 2 1 :: (List.range k).map fun (i : Nat) => .wr ((i : Int) + 1) [] 0
def fmtS (cnt : Nat) : List Stp := fmtP (cnt - 1) ++ [.bar]
def fmtJ (a : Nat) : Jn := ⟨a, 2, 1, 2, fun _ => none, false⟩
theorem fmtP_succ (k : Nat) : fmtP (k + 1) = fmtP k ++ [.wr ((k : Int) + 1) [] 0] := by
  unfold fmtP; rw [List.range_succ, List.map_append]; rfl
theorem fmtJ_ok {V : Dv} {a : Int} (h : isA V a = true) : (fmtJ a.toNat).ok V ∧ (a.toNat : Int) = a := by
  unfold isA at h
  simp only [Bool.and_eq_true, decide_eq_true_eq] at h
  exact ⟨⟨by show 4 ≤ a.toNat; omega, by show a.toNat < V.cnt; omega, by show (2 : Int) ≤ 2; omega, by show (2 : Int) ≤ _; omega, by show (1 : Int) ≤ 1; omega, by show (1 : Int) ≤ _; omega, by show (2 : Int) ≤ 2; omega, by show (2 : Int) ≤ (a.toNat : Int); omega, fun i d z => nomatch z⟩, by omega⟩
set_option maxHeartbeats 8000000 in
theorem format_at (B x p : Nat) (S : St) (V : Dv) (a : Int) (n : Nat) (w : World) (h : EAt w B x p S V) (hc : Calm n S) (ha : In64 a) :
    Calls Tryz.prog 56 #[.pointer (some ⟨x, 0, none⟩), .int .i64 a] w fun e w' =>
      (isA V a = false ∧ e = .returned (.tuple #[.pointer none, .int .i64 160]) ∧ Below w.heap.size w w') ∨
      (isA V a = true ∧ ∃ j, e = .returned (.tuple #[.pointer (some ⟨j, 0, none⟩), .int .i64 0]) ∧ JAt w' B j x p (runS (fmtS V.cnt) S V).1 (runS (fmtS V.cnt) S V).2 (fmtJ a.toNat) ∧ Below B w w') := by
  have hB := h.base
  have hok := h.sok
  have hgd := h.good
  obtain ⟨F, hE, hFB, hbd⟩ := h.bd
  have hcnt : V.cnt ≤ 4096 := by have := hgd.fit; unfold Fit at this; omega
  obtain ⟨w2, hw2⟩ : ∃ w2, w2 = (w.alloc (.cells #[.pointer none] 41)).alloc (.cells #[.int .i64 0] 29) := ⟨_, rfl⟩
  have hb2 : Below w.heap.size w w2 := by rw [hw2]; exact ((Below.refl _ w).alloc (Nat.le_refl _) _).alloc (by simp) _
  have s1 : (w.alloc (.cells #[.pointer none] 41)).heap.size = w.heap.size + 1 := by simp
  have k0 : w2.heap[w.heap.size]? = some (.cells #[.pointer none] 41 (0, 0)) := by rw [hw2]; exact block_alloc (block_new w _) _
  have k1 : w2.heap[w.heap.size + 1]? = some (.cells #[.int .i64 0] 29 (0, 0)) := by rw [hw2, ← s1]; exact block_new _ _
  have hsz2 : w2.heap.size = w.heap.size + 2 := by rw [hw2]; simp
  have c0 := cell0 k0
  have c1 := cell0 k1
  have f0 : w2.frozen? ⟨w.heap.size, 0, none⟩ = false := block_free k0
  have f1 : w2.frozen? ⟨w.heap.size + 1, 0, none⟩ = false := block_free k1
  have HW2 : Hid ((w.alloc (.cells #[.pointer none] 41)).alloc (.cells #[.int .i64 0] 29) = w2) := hw2.symm
  have KA := Lib.hid (isArea_any F x p S V a w2 (hE.below hb2) hcnt ha)
  have HB2 := Lib.hid hb2
  cases hz : isA V a with
  | false =>
    rw [hz] at KA
    have HEND : Hid (((w2.setCell ⟨w.heap.size, 0, none⟩ (.pointer none)).setCell ⟨w.heap.size + 1, 0, none⟩ (.int .i64 160)).cell? ⟨w.heap.size, 0, none⟩ = some (.pointer none) ∧ ((w2.setCell ⟨w.heap.size, 0, none⟩ (.pointer none)).setCell ⟨w.heap.size + 1, 0, none⟩ (.int .i64 160)).cell? ⟨w.heap.size + 1, 0, none⟩ = some (.int .i64 160) ∧ Below w.heap.size w ((w2.setCell ⟨w.heap.size, 0, none⟩ (.pointer none)).setCell ⟨w.heap.size + 1, 0, none⟩ (.int .i64 160))) := by
      have e0 := block_setCell (o := 0) (u := .pointer none) k0
      have e0' := (block_setCell_other (w := w2.setCell ⟨w.heap.size, 0, none⟩ (.pointer none)) (x := ⟨w.heap.size + 1, 0, none⟩) (u := .int .i64 160) (by show w.heap.size ≠ w.heap.size + 1; omega)).trans e0
      have e1 := (block_setCell_other (w := w2) (x := ⟨w.heap.size, 0, none⟩) (u := .pointer none) (by show w.heap.size + 1 ≠ w.heap.size; omega)).trans k1
      have e1' := block_setCell (o := 0) (u := .int .i64 160) e1
      exact ⟨cell0 e0', cell0 e1', (hb2.setCell (p := ⟨w.heap.size, 0, none⟩) (Nat.le_refl _) _).setCell (p := ⟨w.heap.size + 1, 0, none⟩) (Nat.le_succ _) _⟩
    clear h hok hgd hE hFB hbd hw2 hb2 s1 k0 k1 hsz2
    go_enter_defers Tryz.func56, Tryz.ntmps56
    go_wp2_with (first
      | (rw [HW2.out])
      | (go_at_call 71; (with_reducible refine KA.out.mono ?_); rintro e w3 ⟨rfl, rfl⟩))
    refine leaves_cons (f := 87) (args := #[.pointer (some ⟨w.heap.size, 0, none⟩), .pointer (some ⟨w.heap.size + 1, 0, none⟩)]) (by simp) (by simp [go_sem]) ?_
    refine (idle87 _ _ _).mono ?_
    rintro e u' w'' ⟨rfl, rfl, rfl⟩
    obtain ⟨hcl0, hcl1, hbe⟩ := HEND.out
    generalize (w2.setCell ⟨w.heap.size, 0, none⟩ (.pointer none)).setCell ⟨w.heap.size + 1, 0, none⟩ (.int .i64 160) = w9 at *
    simp [Leaves, settle, results, Tryz.results56, go_sem, hcl0, hcl1]
    exact hbe
  | true =>
    rw [hz] at KA
    obtain ⟨hjo, haa⟩ := fmtJ_ok hz
    obtain ⟨w3, hw3⟩ : ∃ w3, w3 = w2.alloc (.cells #[.pointer (some ⟨x, 0, none⟩), .int .i64 a, .int .i64 0, .int .i64 0, .int .i64 0, .map none, .bool false] 101) := ⟨_, rfl⟩
    have HW3 : Hid (w2.alloc (.cells #[.pointer (some ⟨x, 0, none⟩), .int .i64 a, .int .i64 0, .int .i64 0, .int .i64 0, .map none, .bool false] 101) = w3) := hw3.symm
    have k03 : w3.heap[w.heap.size]? = some (.cells #[.pointer none] 41 (0, 0)) := by rw [hw3]; exact block_alloc k0 _
    have q3 := cell0 k03
    have r3 : w3.frozen? ⟨w.heap.size, 0, none⟩ = false := block_free k03
    obtain ⟨w4, hw4⟩ : ∃ w4, w4 = w3.setCell ⟨w.heap.size, 0, none⟩ (.pointer (some ⟨w2.heap.size, 0, none⟩)) := ⟨_, rfl⟩
    have HW4 : Hid (w3.setCell ⟨w.heap.size, 0, none⟩ (.pointer (some ⟨w2.heap.size, 0, none⟩)) = w4) := hw4.symm
    have hb4 : Below w.heap.size w w4 := by rw [hw4, hw3]; exact ((hb2.alloc hb2.size _).setCell (p := ⟨w.heap.size, 0, none⟩) (Nat.le_refl _) _)
    have hs4 : w4.heap.size = w.heap.size + 3 := by rw [hw4, hw3]; simp [hsz2]
    have k04 : w4.heap[w.heap.size]? = some (.cells #[.pointer (some ⟨w2.heap.size, 0, none⟩)] 41 (0, 0)) := by rw [hw4]; exact block_setCell (o := 0) k03
    have k14 : w4.heap[w.heap.size + 1]? = some (.cells #[.int .i64 0] 29 (0, 0)) := by rw [hw4, hw3]; exact (block_setCell_other (by show w.heap.size + 1 ≠ w.heap.size; omega)).trans (block_alloc k1 _)
    have kj4 : w4.heap[w2.heap.size]? = some (.cells (jcells x ⟨a.toNat, 0, 0, 0, fun _ => none, false⟩ (.map none)) 101 (0, 0)) := by
      rw [hw4, hw3]
      refine (block_setCell_other (by show w2.heap.size ≠ w.heap.size; omega)).trans ((block_new w2 _).trans ?_)
      unfold jcells
      rw [haa]
    have hx4 : JX w4 F w2.heap.size x p (.map none) S V ⟨a.toNat, 0, 0, 0, fun _ => none, false⟩ := ⟨kj4, hE.below hb4, fun z => by have := hbd _ z; omega, hok, hgd, fun k hk => Nat.lt_of_lt_of_le (hbd k hk) hb4.size⟩
    have KB := Lib.hid (begin_any F w2.heap.size x p (.map none) S V _ 2 1 w4 hx4)
    obtain ⟨j, hj⟩ : ∃ j, j = w2.heap.size := ⟨_, rfl⟩
    have HJ := Lib.hid hj
    rw [← hj] at KB k04 kj4 hx4 HW4
    have H5 : Hid (∀ w5, JX w5 F j x p (.map (some w4.heap.size)) S V (fmtJ a.toNat) → (∀ c, MapD w5 w4.heap.size c fun _ => none) → Ch (fun k => k = j) w4 w5 → IsJ w5 F j x p w4.heap.size S V (fmtJ a.toNat) ∧ Below w.heap.size w w5 ∧ w5.heap[w.heap.size]? = some (.cells #[.pointer (some ⟨j, 0, none⟩)] 41 (0, 0)) ∧ w5.heap[w.heap.size + 1]? = some (.cells #[.int .i64 0] 29 (0, 0))) := fun w5 h5 m5 c5 => by
      refine ⟨⟨h5, m5 _, fun z => by have := hbd _ z; omega, by omega, hjo, rfl⟩, ?_, (c5.block _ (by omega) (by show ¬ _ = _; omega)).trans k04, (c5.block _ (by omega) (by show ¬ _ = _; omega)).trans k14⟩
      exact hb4.trans (c5.below hb4.size (fun k hk => by rw [hk]; omega))
    have hnjf : ∀ b, b = w.heap.size ∨ b = w.heap.size + 1 → ¬ JF F j w4.heap.size b := fun b hb z => by
      rcases z with z | z | z
      · have := hbd _ z; omega
      · omega
      · omega
    have hFJ : ∀ k, JF F j w4.heap.size k → B ≤ k := fun k z => by
      rcases z with z | z | z
      · exact hFB k z
      · omega
      · omega
    have HFIN : Hid (∀ w5, IsJ w5 F j x p w4.heap.size S V (fmtJ a.toNat) → Below w.heap.size w w5 → w5.heap[w.heap.size]? = some (.cells #[.pointer (some ⟨j, 0, none⟩)] 41 (0, 0)) → w5.heap[w.heap.size + 1]? = some (.cells #[.int .i64 0] 29 (0, 0)) → ∀ l wN, TX F w5 wN j x p (.map (some w4.heap.size)) (runS l S V).1 (runS l S V).2 (fmtJ a.toNat) →
        wN.cell? ⟨w.heap.size, 0, none⟩ = some (.pointer (some ⟨j, 0, none⟩)) ∧ wN.cell? ⟨w.heap.size + 1, 0, none⟩ = some (.int .i64 0) ∧ wN.frozen? ⟨w.heap.size, 0, none⟩ = false ∧ wN.frozen? ⟨w.heap.size + 1, 0, none⟩ = false ∧
        ((wN.setCell ⟨w.heap.size, 0, none⟩ (.pointer (some ⟨j, 0, none⟩))).setCell ⟨w.heap.size + 1, 0, none⟩ (.int .i64 0)).cell? ⟨w.heap.size, 0, none⟩ = some (.pointer (some ⟨j, 0, none⟩)) ∧ ((wN.setCell ⟨w.heap.size, 0, none⟩ (.pointer (some ⟨j, 0, none⟩))).setCell ⟨w.heap.size + 1, 0, none⟩ (.int .i64 0)).cell? ⟨w.heap.size + 1, 0, none⟩ = some (.int .i64 0) ∧ JAt ((wN.setCell ⟨w.heap.size, 0, none⟩ (.pointer (some ⟨j, 0, none⟩))).setCell ⟨w.heap.size + 1, 0, none⟩ (.int .i64 0)) B j x p (runS l S V).1 (runS l S V).2 (fmtJ a.toNat) ∧ Below B w ((wN.setCell ⟨w.heap.size, 0, none⟩ (.pointer (some ⟨j, 0, none⟩))).setCell ⟨w.heap.size + 1, 0, none⟩ (.int .i64 0))) := fun w5 i5 hb5 e0 e1 l wN t =>
      new_fin hB hb5 hFJ (Nat.le_refl _) (Nat.le_succ _) (by omega) e0 e1 (hnjf _ (.inl rfl)) (hnjf _ (.inr rfl)) (i5.tx t (run_cnt hok hgd)) _ _
    have HC := Lib.hid (And.intro hc (And.intro hok hgd))
    have HCN := Lib.hid (fun (l : List Stp) => calm_run l hc hgd)
    have hc1 := hgd.ok.cnt
    have y0 := cell0 k04
    clear h hE hFB hbd hw2 hb2 s1 k0 k1 hsz2 hw4 hw3 k03 hb4 hs4 k04 k14 kj4 hx4 hnjf hFJ hjo hj hok hgd hc
    go_enter_defers Tryz.func56, Tryz.ntmps56
    go_wp2_with (first
      | (rw [HW2.out])
      | (go_at_call 71; (with_reducible refine KA.out.mono ?_); rintro e w3 ⟨rfl, rfl⟩)
      | (rw [HW3.out])
      | (rw [← HJ.out, HW4.out])
      | (go_at_call 88; (with_reducible refine KB.out.mono ?_); rintro e w5 ⟨rfl, h5, m5, c5⟩; obtain ⟨i5, b5, e0, e1⟩ := H5.out w5 h5 m5 c5; have y5 := cell0 e0; have H6 := Lib.hid (And.intro i5 (And.intro b5 (And.intro e0 e1))); clear h5 m5 c5 i5 b5 e0 e1)
      | (go_at_call 89; (with_reducible refine (jhead_any F j x p _ S V _ 2 1 _ H6.out.1.jx (by omega)).mono ?_); intro e w6 hd; obtain ⟨rfl, t6⟩ := hd.yes (HCN.out _).1; obtain ⟨y6, _⟩ := HFIN.out w5 H6.out.1 H6.out.2.1 H6.out.2.2.1 H6.out.2.2.2 _ w6 t6; have H7 := Lib.hid t6; clear hd t6))
    go_loopw [6] (fun i W => ∃ k : Nat, k ≤ V.cnt - 1 ∧ i = .int .i64 ((k : Int) + 1) ∧ TX F w5 W j x p (.map (some w4.heap.size)) (runS (fmtP k) S V).1 (runS (fmtP k) S V).2 (fmtJ a.toNat)) (fun i _ => V.cnt - (RowKit.intOf i).toNat)
    case atStart => exact ⟨0, Nat.zero_le _, rfl, H7.out⟩
    case round =>
      obtain ⟨k, hk, rfl, ht⟩ := hrel
      obtain ⟨z0, z1, z2, z3, hfin⟩ := HFIN.out w5 H6.out.1 H6.out.2.1 H6.out.2.2.1 H6.out.2.2.2 _ wr ht
      obtain ⟨F8, h8, g8, c8⟩ := ht
      have hcn8 : (runS (fmtP k) S V).2.cnt = V.cnt := run_cnt HC.out.2.1 HC.out.2.2
      have hcnt8 := h8.cnt
      rw [hcn8] at hcnt8
      have KCN := Lib.hid hcnt8
      by_cases hlt : k < V.cnt - 1
      · have hki : (k : Int) + 1 < (V.cnt : Int) := by omega
        have hw1 : IntKind.i64.wrap ((k : Int) + 1) = (k : Int) + 1 := by rw [IntKind.wrap_i64]; omega
        have hw2' : IntKind.i64.wrap ((k : Int) + 1 + 1) = (k : Int) + 1 + 1 := by rw [IntKind.wrap_i64]; omega
        obtain ⟨hgo, hcal⟩ := HCN.out (fmtP k)
        obtain ⟨gg8, gk8, _⟩ := run_good (fmtP k) HC.out.2.1 HC.out.2.2
        have hgo2 := (calm_run [.wr ((k : Int) + 1) [] 0] hcal gg8).1
        have KW := Lib.hid (jwrite_any F8 j x p _ _ _ _ ((k : Int) + 1) ⟨#[]⟩ 0 wr h8 (by decide))
        have HN : Hid (runS (fmtP (k + 1)) S V = runS [.wr ((k : Int) + 1) [] 0] (runS (fmtP k) S V).1 (runS (fmtP k) S V).2) := by
          unfold Hid
          rw [fmtP_succ]; exact (go_on hgo hgo2).2
        have HG2 := Lib.hid hgo2
        have HT8 := Lib.hid (And.intro g8 c8)
        clear h8 g8 c8 hcnt8 hgo hgo2 hcal gg8 gk8 hfin hcn8 z1 z2 z3
        go_wp2_with (first
          | (go_at_call 63; (with_reducible refine KCN.out.mono ?_); rintro e w9 ⟨rfl, rfl⟩)
          | (go_at_call 90; (with_reducible refine KW.out.mono ?_); intro e w9 hd; obtain ⟨rfl, t9⟩ := hd.yes HG2.out; have H9 : Hid (TX F w5 w9 j x p (.map (some w4.heap.size)) (runS (fmtP (k + 1)) S V).1 (runS (fmtP (k + 1)) S V).2 (fmtJ a.toNat)) := (by unfold Hid; rw [HN.out]; exact TX.trans HT8.out.1 HT8.out.2 t9); clear hd t9))
        go_roundw
        case rel => exact ⟨k + 1, by omega, by congr 1, H9.out⟩
        case measure => simp only [RowKit.intOf]; omega
      · have hkc : k = V.cnt - 1 := by omega
        have hki : ¬ (k : Int) + 1 < (V.cnt : Int) := by omega
        obtain ⟨hgo, hcal⟩ := HCN.out (fmtP k)
        obtain ⟨gg8, gk8, _⟩ := run_good (fmtP k) HC.out.2.1 HC.out.2.2
        have hgo2 := (calm_run [.bar] hcal gg8).1
        have KW := Lib.hid (jbar_any F8 j x p _ _ _ _ wr h8)
        have HN : Hid (runS (fmtS V.cnt) S V = runS [.bar] (runS (fmtP k) S V).1 (runS (fmtP k) S V).2) := by
          unfold Hid fmtS
          rw [← hkc]; exact (go_on hgo hgo2).2
        have HG2 := Lib.hid hgo2
        have HT8 := Lib.hid (And.intro g8 c8)
        clear h8 g8 c8 hcnt8 hgo hgo2 hcal gg8 gk8 hfin hcn8 z1 z2 z3 hlt hkc hk
        go_wp2_with (first
          | (go_at_call 63; (with_reducible refine KCN.out.mono ?_); rintro e w9 ⟨rfl, rfl⟩)
          | (go_at_call 65; (with_reducible refine KW.out.mono ?_); intro e w9 hd; obtain ⟨rfl, t9⟩ := hd.yes HG2.out; obtain ⟨z0', z1', z2', z3', z4, z5, z6⟩ := HFIN.out w5 H6.out.1 H6.out.2.1 H6.out.2.2.1 H6.out.2.2.2 (fmtS V.cnt) w9 (by rw [HN.out]; exact TX.trans HT8.out.1 HT8.out.2 t9); have HX4 := Lib.hid (And.intro z4 (And.intro z5 z6)); clear hd t9 z4 z5 z6))
        refine leaves_cons (f := 87) (args := #[.pointer (some ⟨w.heap.size, 0, none⟩), .pointer (some ⟨w.heap.size + 1, 0, none⟩)]) (by simp) (by simp [go_sem]) ?_
        refine (idle87 _ _ _).mono ?_
        rintro e u' w'' ⟨rfl, rfl, rfl⟩
        obtain ⟨hcl0, hcl1, hbe⟩ := HX4.out
        generalize (w9.setCell ⟨w.heap.size, 0, none⟩ (.pointer (some ⟨j, 0, none⟩))).setCell ⟨w.heap.size + 1, 0, none⟩ (.int .i64 0) = w10 at *
        simp [Leaves, settle, results, Tryz.results56, go_sem, hcl0, hcl1]
        exact hbe
end Go.Proofs.YtjippoejaieneaaGreat
