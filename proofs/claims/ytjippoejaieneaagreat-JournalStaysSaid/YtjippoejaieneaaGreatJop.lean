/- A journal is opened of which no record counts, while the power is there. Conditions: ints are within 64 bits. -/
import Derived.Test.YtjippoejaieneaaGreatJhc
namespace Go.Proofs.YtjippoejaieneaaGreat
open Go.RowKit Go.Maps
set_option maxRecDepth 20000
set_option linter.unusedVariables false

theorem stN_same {S : St} {V V' : Dv} (h1 : V'.first = V.first) (h2 : V'.cnt = V.cnt) (i : Int) : stN S V' i = stN S V i ∧ stE S V' i = stE S V i := by
  have e1 : refE S V' i = refE S V i := by unfold refE; rw [h2]
  have e2 : sct S V' i = sct S V i := by unfold sct; rw [h1]
  unfold stN stE rawN
  rw [e1, e2]
  exact ⟨rfl, rfl⟩
theorem stMax_same {S : St} {V V' : Dv} (h1 : V'.first = V.first) (h2 : V'.cnt = V.cnt) : ∀ k, stMax S V' k = stMax S V k
  | 0 => rfl
  | k + 1 => by unfold stMax; rw [stMax_same h1 h2 k, (stN_same h1 h2 _).1]
set_option maxHeartbeats 4000000 in
theorem bring_any (F : Nat → Prop) (j x p : Nat) (mv : Value) (S : St) (V : Dv) (J : Jn) (w : World) (h : JX w F j x p mv S V J) (hd : S.dead = false) (hm : V.mis < 4611686018427387000) (ha : 2 ≤ J.area ∧ J.area ≤ 4096)
    (hst : ∀ k : Nat, k < J.area - 2 → stE S V ((k : Int) + 2) = 0) (hh : (hb S V 2).1 ≠ 0) (hlt : stMax S V (J.area - 2) < (hb S V 2).2) :
    Calls Tryz.prog 72 #[.pointer (some ⟨j, 0, none⟩)] w fun e w' => e = .returned (.int .i64 0) ∧ ∃ F' m, JX w' F' j x p (.map (some m)) S (vk S V 2) (J0 (hb S V 2).1 (hb S V 2).2 J) ∧ (∀ c, MapD w' m c fun _ => none) ∧ Gr F F' w w' ∧ Ch (fun k => F k ∨ k = j) w w' ∧ w.heap.size ≤ m ∧ ¬ F' m := by
  have K1 := Lib.hid (headC_any F j x p mv S V J w h hd hm)
  have K2 : Hid (∀ F1 W, JX W F1 j x p mv S (vk S V 2) J → Calls Tryz.prog 105 #[.pointer (some ⟨j, 0, none⟩)] W fun e w' => e = .returned (.tuple #[.int .i64 (stMax S V (J.area - 2)), .int .i64 0]) ∧ Below W.heap.size W w') := fun F1 W h1 => by
    obtain ⟨a, b, _, _⟩ := vk_cnt S V 2
    have := greatest_any F1 j x p mv S (vk S V 2) J W h1 ha (fun k hk => by rw [(stN_same a b _).2]; exact hst k hk)
    rwa [stMax_same a b] at this
  have K3 : Hid (∀ F1 W, JX W F1 j x p mv S (vk S V 2) J → Calls Tryz.prog 88 #[.pointer (some ⟨j, 0, none⟩), .int .i64 (hb S V 2).1, .int .i64 (hb S V 2).2] W fun e w' => e = .returned (.tuple #[]) ∧ JX w' F1 j x p (.map (some W.heap.size)) S (vk S V 2) (J0 (hb S V 2).1 (hb S V 2).2 J) ∧ (∀ c, MapD w' W.heap.size c fun _ => none) ∧ Ch (fun k => k = j) W w') := fun F1 W h1 => begin_any F1 j x p mv S (vk S V 2) J _ _ W h1
  generalize stMax S V (J.area - 2) = M at *
  generalize (hb S V 2).1 = H at *
  generalize (hb S V 2).2 = f at *
  have hhb : (H == 0) = false := by simp [hh]
  clear h hd hm hst
  go_enter Tryz.func72, Tryz.ntmps72
  go_wp2_with (first
    | (go_at_call 104; (with_reducible refine K1.out.mono ?_); rintro e w1 ⟨rfl, F1, h1, g1, c1⟩; have H1 := Lib.hid (And.intro h1 (And.intro g1 c1)); clear h1 g1 c1)
    | (go_at_call 105; (with_reducible refine (K2.out F1 w1 H1.out.1).mono ?_); rintro e w2 ⟨rfl, b2⟩; have B2 := Lib.hid b2; clear b2)
    | (go_at_call 88; (with_reducible refine (K3.out F1 w2 (H1.out.1.below B2.out)).mono ?_); rintro e w3 ⟨rfl, h3, m3, c3⟩; have H3 := Lib.hid (And.intro h3 (And.intro m3 c3)); clear h3 m3 c3))
  go_ret
  obtain ⟨h1, g1, c1⟩ := H1.out
  obtain ⟨h3, m3, c3⟩ := H3.out
  have b2 := B2.out
  have s1 := c1.size
  have s2 := b2.size
  refine ⟨rfl, F1, w2.heap.size, h3, m3, fun k hk => (g1 k hk).imp id (fun z => ⟨z.1, by have := c3.size; omega⟩), ?_, by omega, fun z => by have := h1.bd _ z; omega⟩
  exact ⟨c3.os.trans (b2.os.trans c1.os), c3.tape.trans (b2.tape.trans c1.tape), c3.output.trans (b2.output.trans c1.output), by have := c3.size; omega, fun k hk hn => (c3.block k (by omega) (fun e => hn (.inr e))).trans ((b2.block k (by omega)).trans (c1.block k hk (fun z => hn (.inl z))))⟩
theorem new_fin2 {w wN : World} {B j x p m b0 b1 : Nat} {F : Nat → Prop} {S : St} {V : Dv} {J : Jn} {u0 u1 : Value} (i : IsJ wN F j x p m S V J) (e0 : wN.heap[b0]? = some (.cells #[u0] 41 (0, 0))) (e1 : wN.heap[b1]? = some (.cells #[u1] 29 (0, 0))) (m0 : ¬ JF F j m b0) (m1 : ¬ JF F j m b1)
    (hBN : Below B w wN) (hB : B ≤ w.heap.size) (hF : ∀ k, JF F j m k → B ≤ k) (hb0 : B ≤ b0) (hb1 : B ≤ b1) (h01 : b0 ≠ b1) (v0 v1 : Value) :
    wN.cell? ⟨b0, 0, none⟩ = some u0 ∧ wN.cell? ⟨b1, 0, none⟩ = some u1 ∧ wN.frozen? ⟨b0, 0, none⟩ = false ∧ wN.frozen? ⟨b1, 0, none⟩ = false ∧
    ((wN.setCell ⟨b0, 0, none⟩ v0).setCell ⟨b1, 0, none⟩ v1).cell? ⟨b0, 0, none⟩ = some v0 ∧ ((wN.setCell ⟨b0, 0, none⟩ v0).setCell ⟨b1, 0, none⟩ v1).cell? ⟨b1, 0, none⟩ = some v1 ∧ JAt ((wN.setCell ⟨b0, 0, none⟩ v0).setCell ⟨b1, 0, none⟩ v1) B j x p S V J ∧ Below B w ((wN.setCell ⟨b0, 0, none⟩ v0).setCell ⟨b1, 0, none⟩ v1) := by
  have a0 := block_setCell (o := 0) (u := v0) e0
  have a0' := (block_setCell_other (w := wN.setCell ⟨b0, 0, none⟩ v0) (x := ⟨b1, 0, none⟩) (u := v1) (by exact h01)).trans a0
  have a1 := (block_setCell_other (w := wN) (x := ⟨b0, 0, none⟩) (u := v0) (by exact fun e => h01 e.symm)).trans e1
  have a1' := block_setCell (o := 0) (u := v1) a1
  refine ⟨cell0 e0, cell0 e1, block_free e0, block_free e1, cell0 a0', cell0 a1', ⟨?_, F, m, (i.setCell m0 v0).setCell m1 v1, hF⟩, (hBN.setCell (p := ⟨b0, 0, none⟩) hb0 _).setCell (p := ⟨b1, 0, none⟩) hb1 _⟩
  simp; exact Nat.le_trans hB hBN.size
/-- what may be opened with nothing to do -/
structure CanOpen (S : St) (V : Dv) (a : Int) : Prop where
  area : isA V a = true
  head : 2 ≤ (hb S V 2).1 ∧ (hb S V 2).1 ≤ 4611686018427387904
  first : 1 ≤ (hb S V 2).2 ∧ (hb S V 2).2 ≤ 4611686018427387904
  st : ∀ k : Nat, k < a.toNat - 2 → stE S V ((k : Int) + 2) = 0
  lt : stMax S V (a.toNat - 2) < (hb S V 2).2
def opnJ (S : St) (V : Dv) (a : Int) : Jn := ⟨a.toNat, (hb S V 2).1, (hb S V 2).2, 2, fun _ => none, false⟩
set_option maxHeartbeats 8000000 in
theorem open_at (B x p : Nat) (S : St) (V : Dv) (a : Int) (w : World) (h : EAt w B x p S V) (hd : S.dead = false) (ha : In64 a) (hm : V.mis < 4611686018427387000) (ho : CanOpen S V a) :
    Calls Tryz.prog 45 #[.pointer (some ⟨x, 0, none⟩), .int .i64 a] w fun e w' => ∃ j, e = .returned (.tuple #[.pointer (some ⟨j, 0, none⟩), .int .i64 0]) ∧ JAt w' B j x p S (vk S V 2) (opnJ S V a) ∧ Below B w w' := by
  have hB := h.base
  have hok := h.sok
  have hgd := h.good
  obtain ⟨F, hE, hFB, hbd⟩ := h.bd
  have hcnt : V.cnt ≤ 4096 := by have := hgd.fit; unfold Fit at this; omega
  obtain ⟨w2, hw2⟩ : ∃ w2, w2 = (w.alloc (.cells #[.pointer none] 41)).alloc (.cells #[.int .i64 0] 29) := ⟨_, rfl⟩
  have hb2 : Below w.heap.size w w2 := by rw [hw2]; exact ((Below.refl _ w).alloc (Nat.le_refl _) _).alloc (by simp) _
  have s1 : (w.alloc (.cells #[.pointer none] 41)).heap.size = w.heap.size + 1 := by simp
  have k0 : w2.heap[w.heap.size]? = some (.cells #[.pointer none] 41 (0, 0)) := by rw [hw2]; exact block_alloc (block_new w _) _
  have k1 : w2.heap[w.heap.size + 1]? = some (.cells #[.int .i64 0] 29 (0, 0)) := by rw [hw2, ← s1]; exact block_new _ _
  have hsz2 : w2.heap.size = w.heap.size + 2 := by rw [hw2]; simp
  have HW2 : Hid ((w.alloc (.cells #[.pointer none] 41)).alloc (.cells #[.int .i64 0] 29) = w2) := hw2.symm
  have hz := ho.area
  obtain ⟨hjo, haa⟩ := fmtJ_ok hz
  have hst0 : stE S V 0 ≠ 2 := by
    unfold stE refE
    rw [hd]
    simp only [Bool.false_eq_true, if_false]
    split
    · split <;> omega
    · split <;> omega
  have KS := Lib.hid (stamp_any F x p S V 0 w2 (hE.below hb2) hgd.fit)
  have H3 : Hid (∀ w3, Below w2.heap.size w2 w3 → (Calls Tryz.prog 71 #[.pointer (some ⟨x, 0, none⟩), .int .i64 a] w3 fun e w' => e = .returned (.bool true) ∧ w3 = w') ∧ (w3.alloc (.cells #[.pointer (some ⟨x, 0, none⟩), .int .i64 a, .int .i64 0, .int .i64 0, .int .i64 0, .map none, .bool false] 101)).cell? ⟨w.heap.size, 0, none⟩ = some (.pointer none) ∧ (w3.alloc (.cells #[.pointer (some ⟨x, 0, none⟩), .int .i64 a, .int .i64 0, .int .i64 0, .int .i64 0, .map none, .bool false] 101)).frozen? ⟨w.heap.size, 0, none⟩ = false ∧
      ∃ w4, (w3.alloc (.cells #[.pointer (some ⟨x, 0, none⟩), .int .i64 a, .int .i64 0, .int .i64 0, .int .i64 0, .map none, .bool false] 101)).setCell ⟨w.heap.size, 0, none⟩ (.pointer (some ⟨w3.heap.size, 0, none⟩)) = w4 ∧ w4.cell? ⟨w.heap.size, 0, none⟩ = some (.pointer (some ⟨w3.heap.size, 0, none⟩)) ∧
      Calls Tryz.prog 72 #[.pointer (some ⟨w3.heap.size, 0, none⟩)] w4 fun e w5 => e = .returned (.int .i64 0) ∧ w5.cell? ⟨w.heap.size, 0, none⟩ = some (.pointer (some ⟨w3.heap.size, 0, none⟩)) ∧ w5.cell? ⟨w.heap.size + 1, 0, none⟩ = some (.int .i64 0) ∧ w5.frozen? ⟨w.heap.size, 0, none⟩ = false ∧ w5.frozen? ⟨w.heap.size + 1, 0, none⟩ = false ∧
        ((w5.setCell ⟨w.heap.size, 0, none⟩ (.pointer (some ⟨w3.heap.size, 0, none⟩))).setCell ⟨w.heap.size + 1, 0, none⟩ (.int .i64 0)).cell? ⟨w.heap.size, 0, none⟩ = some (.pointer (some ⟨w3.heap.size, 0, none⟩)) ∧ ((w5.setCell ⟨w.heap.size, 0, none⟩ (.pointer (some ⟨w3.heap.size, 0, none⟩))).setCell ⟨w.heap.size + 1, 0, none⟩ (.int .i64 0)).cell? ⟨w.heap.size + 1, 0, none⟩ = some (.int .i64 0) ∧ JAt ((w5.setCell ⟨w.heap.size, 0, none⟩ (.pointer (some ⟨w3.heap.size, 0, none⟩))).setCell ⟨w.heap.size + 1, 0, none⟩ (.int .i64 0)) B w3.heap.size x p S (vk S V 2) (opnJ S V a) ∧ Below B w ((w5.setCell ⟨w.heap.size, 0, none⟩ (.pointer (some ⟨w3.heap.size, 0, none⟩))).setCell ⟨w.heap.size + 1, 0, none⟩ (.int .i64 0))) := fun w3 hb3 => by
    have hbw3 := hb2.trans (hb3.mono hb2.size)
    have s3 := hb3.size
    have k03 := (hb3.block _ (block_lt k0)).trans k0
    have k13 := (hb3.block _ (block_lt k1)).trans k1
    have k0a := block_alloc k03 (.cells #[.pointer (some ⟨x, 0, none⟩), .int .i64 a, .int .i64 0, .int .i64 0, .int .i64 0, .map none, .bool false] 101)
    have k1a := block_alloc k13 (.cells #[.pointer (some ⟨x, 0, none⟩), .int .i64 a, .int .i64 0, .int .i64 0, .int .i64 0, .map none, .bool false] 101)
    have kja := block_new w3 (.cells #[.pointer (some ⟨x, 0, none⟩), .int .i64 a, .int .i64 0, .int .i64 0, .int .i64 0, .map none, .bool false] 101)
    have KA := isArea_any F x p S V a w3 (hE.below hbw3) hcnt ha
    rw [hz] at KA
    refine ⟨KA, cell0 k0a, block_free k0a, _, rfl, cell0 (block_setCell k0a), ?_⟩
    obtain ⟨w4, hw4⟩ : ∃ w4, w4 = (w3.alloc (.cells #[.pointer (some ⟨x, 0, none⟩), .int .i64 a, .int .i64 0, .int .i64 0, .int .i64 0, .map none, .bool false] 101)).setCell ⟨w.heap.size, 0, none⟩ (.pointer (some ⟨w3.heap.size, 0, none⟩)) := ⟨_, rfl⟩
    rw [← hw4]
    have hb4 : Below w.heap.size w w4 := by rw [hw4]; exact (hbw3.alloc hbw3.size _).setCell (p := ⟨w.heap.size, 0, none⟩) (Nat.le_refl _) _
    have hs4 : w4.heap.size = w3.heap.size + 1 := by rw [hw4]; simp
    have k04 : w4.heap[w.heap.size]? = some (.cells #[.pointer (some ⟨w3.heap.size, 0, none⟩)] 41 (0, 0)) := by rw [hw4]; exact block_setCell k0a
    have k14 : w4.heap[w.heap.size + 1]? = some (.cells #[.int .i64 0] 29 (0, 0)) := by rw [hw4]; exact (block_setCell_other (by show w.heap.size + 1 ≠ w.heap.size; omega)).trans k1a
    have kj4 : w4.heap[w3.heap.size]? = some (.cells (jcells x ⟨a.toNat, 0, 0, 0, fun _ => none, false⟩ (.map none)) 101 (0, 0)) := by
      rw [hw4]
      refine (block_setCell_other (by show w3.heap.size ≠ w.heap.size; omega)).trans (kja.trans ?_)
      unfold jcells
      rw [haa]
    have hx4 : JX w4 F w3.heap.size x p (.map none) S V ⟨a.toNat, 0, 0, 0, fun _ => none, false⟩ := ⟨kj4, hE.below hb4, fun z => by have := hbd _ z; omega, hok, hgd, fun k hk => Nat.lt_of_lt_of_le (hbd k hk) hb4.size⟩
    have ha0 := hjo.a0
    have ha1 := hjo.a1
    change 4 ≤ a.toNat at ha0
    change a.toNat < V.cnt at ha1
    refine (bring_any F w3.heap.size x p (.map none) S V _ w4 hx4 hd hm ⟨by show 2 ≤ a.toNat; omega, by show a.toNat ≤ 4096; omega⟩ ho.st (by have := ho.head.1; omega) ho.lt).mono fun e w5 q => ?_
    obtain ⟨rfl, F', m, h5, m5, g5, c5, s5, n5⟩ := q
    have i5 : IsJ w5 F' w3.heap.size x p m S (vk S V 2) (opnJ S V a) := ⟨h5, m5 _, n5, by omega, ⟨ha0, by rw [(vk_cnt S V 2).2.1]; exact ha1, ho.head.1, ho.head.2, ho.first.1, ho.first.2, by show (2 : Int) ≤ 2; omega, by show (2 : Int) ≤ (a.toNat : Int); omega, fun i d z => nomatch z⟩, rfl⟩
    have n0 : ∀ b, b = w.heap.size ∨ b = w.heap.size + 1 → ¬ (F b ∨ b = w3.heap.size) := fun b hb z => by
      rcases z with z | z
      · have := hbd _ z; omega
      · omega
    have e0 := (c5.block _ (block_lt k04) (n0 _ (.inl rfl))).trans k04
    have e1 := (c5.block _ (block_lt k14) (n0 _ (.inr rfl))).trans k14
    have nJ : ∀ b, b = w.heap.size ∨ b = w.heap.size + 1 → ¬ JF F' w3.heap.size m b := fun b hb z => by
      rcases z with z | z | z
      · rcases g5 b z with y | y
        · exact n0 b hb (.inl y)
        · omega
      · omega
      · omega
    have hBN : Below B w w5 := by
      refine ⟨c5.os.trans hb4.os, c5.tape.trans hb4.tape, c5.output.trans hb4.output, Nat.le_trans hb4.size c5.size, fun k hk => ?_⟩
      refine (c5.block k (by omega) (fun z => ?_)).trans (hb4.block k (by omega))
      rcases z with z | z
      · have := hFB k z; omega
      · omega
    have hFJ : ∀ k, JF F' w3.heap.size m k → B ≤ k := fun k z => by
      rcases z with z | z | z
      · rcases g5 k z with y | y
        · exact hFB k y
        · omega
      · omega
      · omega
    exact ⟨rfl, new_fin2 i5 e0 e1 (nJ _ (.inl rfl)) (nJ _ (.inr rfl)) hBN hB hFJ hB (by omega) (by omega) _ _⟩
  clear h hok hgd hE hFB hbd hw2 hb2 s1 k0 k1 hsz2 ho hjo hd hm
  go_enter_defers Tryz.func45, Tryz.ntmps45
  go_wp2_with (first
    | (rw [HW2.out])
    | (go_at_call 70; (with_reducible refine KS.out.mono ?_); rintro e w3 ⟨rfl, hb3⟩; obtain ⟨ka, q3, r3, w4, hw4, y4, kb⟩ := H3.out w3 hb3; have KA := Lib.hid ka; have KB := Lib.hid kb; have HW4 := Lib.hid hw4; clear ka kb hw4)
    | (go_at_call 71; (with_reducible refine KA.out.mono ?_); rintro e w6 ⟨rfl, rfl⟩)
    | (rw [HW4.out])
    | (go_at_call 72; (with_reducible refine KB.out.mono ?_); rintro e w5 ⟨rfl, z0, z1, z2, z3, z4, z5, z6⟩; have HX4 := Lib.hid (And.intro z4 (And.intro z5 z6)); clear z4 z5 z6))
  refine leaves_cons (f := 69) (args := #[.pointer (some ⟨w.heap.size, 0, none⟩), .pointer (some ⟨w.heap.size + 1, 0, none⟩)]) (by simp) (by simp [go_sem]) ?_
  refine (idle69 _ _ _).mono ?_
  rintro e u' w'' ⟨rfl, rfl, rfl⟩
  obtain ⟨hcl0, hcl1, hbe⟩ := HX4.out
  generalize (w5.setCell ⟨w.heap.size, 0, none⟩ (.pointer (some ⟨w3.heap.size, 0, none⟩))).setCell ⟨w.heap.size + 1, 0, none⟩ (.int .i64 0) = w10 at *
  simp [Leaves, settle, results, Tryz.results45, go_sem, hcl0, hcl1]
  exact hbe
end Go.Proofs.YtjippoejaieneaaGreat
