/- What laying an expression's states leaves: the call's contract. Conditions: the machine lies in memory, the expression too, ahead of it; there is room. -/
import Derived.Test.YtdmajbdgjjmlkaaLas
namespace Go.Proofs.Ytdmajbdgjjmlkaa
open Go.RowKit
set_option linter.unusedVariables false
set_option linter.unusedSimpArgs false

set_option maxRecDepth 100000 in
set_option maxHeartbeats 4000000 in
theorem lay_all : ∀ t : Rx, sizeR t ≠ 0 → sizeR t < 257 → LayC t := by
  intro t
  refine Rx.ind (P := fun t => sizeR t ≠ 0 → sizeR t < 257 → LayC t) ?_ t
  intro k mn mx s0 s1 s2 s3 l ih hz hz57 n0 p M w sv nx h hl hroom hnx
  obtain ⟨hf, hx0⟩ := sizeR_form hz
  have hsum := sizeR_sum hf hx0
  rw [hsum] at hz57 hroom
  have hlt57 : 1 + sumR l * timesF mn mx < 257 := by omega
  rw [Nat.min_eq_left (by omega)] at hroom
  have htp := timesF_pos mn mx
  have hx1 : ∀ x ∈ l, sizeR x < 257 := sumR_lt hlt57 htp
  have HX : ∀ x ∈ l, LayC x := fun x hm => ih x hm (hx0 x hm) (hx1 x hm)
  have hs1 : sumR l ≤ sumR l * timesF mn mx := by
    have := Nat.mul_le_mul_left (sumR l) htp
    omega
  obtain ⟨X, hX⟩ : ∃ X, X = w.heap.size := ⟨_, rfl⟩
  have hzz : w.heap.size = X := hX.symm
  obtain ⟨L, beg⟩ := M
  dsimp only [Rx.list] at *
  have hn0 : n0 ≤ X := by rw [hX]; exact Nat.le_trans h.base (Nat.le_of_lt h.lt)
  have hpX : p < X := by rw [hX]; exact h.lt
  obtain ⟨ao, cap, rfl⟩ := hl.value
  obtain ⟨B8, hB8⟩ : ∃ B8 : Array Value, B8 = #[.int .i64 k, .int .i64 mn, .int .i64 mx, .int .u64 s0, .int .u64 s1, .int .u64 s2, .int .u64 s3, .slice ao l.length cap] := ⟨_, rfl⟩
  obtain ⟨W0, hW0⟩ : ∃ W0, W0 = w.alloc (.cells B8 26) := ⟨_, rfl⟩
  have b0 : Below w.heap.size w W0 := by rw [hW0]; exact below_new w _
  have x0 : W0.heap[X]? = some (.cells B8 26 (0, 0)) := by rw [hW0, hX]; exact heap_alloc_new w _
  have m0 := h.of_below b0
  have o0 : Oth n0 p w W0 := Oth.of_below b0 (by rw [← hX]; exact hn0)
  have l0 := hl.oth o0
  obtain ⟨c0, c1, c2, c3, c4, c5, c6, c7⟩ := cells8_at (w := W0) (X := X) (by rw [hB8] at x0; exact x0)
  have HW0 : Hid (w.alloc (.cells #[.int .i64 k, .int .i64 mn, .int .i64 mx, .int .u64 s0, .int .u64 s1, .int .u64 s2, .int .u64 s3, .slice ao l.length cap] 26) = W0) := Lib.hid (by rw [hW0, hB8])
  have HO0 := Lib.hid o0
  unfold Rx.val Rx.cells cellsX
  dsimp only
  by_cases k0 : k = 0
  · subst k0
    have hr : layR (.mk 0 mn mx s0 s1 s2 s3 l) nx L = (L.length, L ++ [⟨s0, s1, s2, s3, bitN nx⟩]) := rfl
    rw [hr]
    have W1 := Lib.hid (pwith0 nx (by omega))
    unfold plc at W1
    have AD := fun w1 (hb : Below W0.heap.size W0 w1) => add_any n0 p ⟨L, beg⟩ ⟨s0, s1, s2, s3, bitN nx⟩ (by show L.length ≤ 1000; omega) w1 (m0.of_below hb)
    have e9 : (staV ⟨s0, s1, s2, s3, bitN nx⟩).toArray = #[Value.int .u64 s0, .int .u64 s1, .int .u64 s2, .int .u64 s3, .int .u64 (pw (bitN nx) 0 : Nat), .int .u64 (pw (bitN nx) 1 : Nat), .int .u64 (pw (bitN nx) 2 : Nat), .int .u64 (pw (bitN nx) 3 : Nat), .int .u64 (pw (bitN nx) 4 : Nat)] := rfl
    rw [e9] at AD
    dsimp only at AD
    have HAD := Lib.hid AD
    have HOB : Hid (∀ w1, Below W0.heap.size W0 w1 → Oth n0 p w w1) := Lib.hid fun w1 hb => o0.trans (Oth.of_below hb (Nat.le_trans m0.base (Nat.le_of_lt m0.lt)))
    have d3 : W0.drew.cell? ⟨X, 3, none⟩ = some (.int .u64 s0) := c3
    have d4 : W0.drew.cell? ⟨X, 4, none⟩ = some (.int .u64 s1) := c4
    have d5 : W0.drew.cell? ⟨X, 5, none⟩ = some (.int .u64 s2) := c5
    have d6 : W0.drew.cell? ⟨X, 6, none⟩ = some (.int .u64 s3) := c6
    have NC : Hid (∀ w1, Below W0.heap.size W0 w1 → w1.cell? ⟨X, 3, none⟩ = some (.int .u64 s0) ∧ w1.cell? ⟨X, 4, none⟩ = some (.int .u64 s1) ∧ w1.cell? ⟨X, 5, none⟩ = some (.int .u64 s2) ∧ w1.cell? ⟨X, 6, none⟩ = some (.int .u64 s3)) := Lib.hid fun w1 hb => by
      obtain ⟨_, _, _, f3, f4, f5, f6, _⟩ := cells8_at (w := w1) (X := X) (by rw [hb.block _ (block_lt' x0)]; rw [hB8] at x0; exact x0)
      exact ⟨f3, f4, f5, f6⟩
    clear ih hz hz57 h hl hroom hnx hf hx0 hsum hlt57 htp hx1 HX hs1 hX hn0 hpX hB8 hW0 b0 x0 m0 o0 l0 hr AD e9
    go_enter Try.func30, Try.ntmps30
    go_wp2_with fail
    rw [HW0.out]
    go_wp2_with fail
    go_region_with (first
      | (go_at_call 29; (with_reducible refine (W1.out _).mono ?_); rintro e w1 ⟨rfl, hb1⟩; have B1 : Hid (Below W0.heap.size W0 w1) := Lib.hid ((Below.refl _ W0).drew.trans hb1); obtain ⟨f3, f4, f5, f6⟩ := NC.out _ B1.out; clear hb1)
      | (go_at_call 43; (with_reducible refine (HAD.out _ B1.out).mono ?_); rintro e w2 ⟨rfl, hi, ho⟩; have HI := Lib.hid hi; have HO := Lib.hid ((HOB.out _ B1.out).trans ho); clear hi ho))
    all_goals
      go_wp2
      go_ret
      exact ⟨rfl, HI.out, HO.out⟩
  · by_cases k2 : k = 2
    · subst k2
      have KL := any_lay l HX hx0 hx1 n0 p ⟨L, beg⟩ W0 (.slice ao l.length cap) nx m0 l0 (by show L.length + sumR l + 1 ≤ 257; omega) hnx
      have hr : layR (.mk 2 mn mx s0 s1 s2 s3 l) nx L = ((layA l nx 0 L).2.length, (layA l nx 0 L).2 ++ [⟨0, 0, 0, 0, (layA l nx 0 L).1⟩]) := rfl
      dsimp only at KL
      rw [← hr] at KL
      unfold LayPost at KL
      have KLH := Lib.hid KL
      clear ih hz hz57 h hl hroom hnx hf hx0 hsum hlt57 htp hx1 HX hs1 hX hn0 hpX hB8 hW0 b0 x0 m0 o0 l0 hr KL k0
      go_enter Try.func30, Try.ntmps30
      go_wp2_with fail
      rw [HW0.out]
      go_wp2_with (go_at_call 44; (with_reducible refine KLH.out.mono ?_); rintro e w1 ⟨rfl, hi, ho⟩; have HI := Lib.hid hi; have HO := Lib.hid ho; clear hi ho)
      go_ret
      exact ⟨rfl, HI.out, HO0.out.trans HO.out⟩
    · by_cases k3 : k = 3
      · subst k3
        obtain ⟨m00, m01, m02, hl1⟩ := form3_parts hf
        obtain ⟨x, rfl⟩ : ∃ x, l = [x] := List.length_eq_one_iff.1 hl1
        have es : sumR [x] = sizeR x := by rw [sumR, sumR]; omega
        rw [es] at hroom hs1 hlt57
        obtain ⟨a, cap', sv2, hsl, _, hab, hcell', hlies'⟩ := l0.elem 0 (by simp)
        obtain ⟨rfl, rfl⟩ : ao = some a ∧ cap = cap' := by
          have h1 := (Value.slice.inj hsl).1
          have h3 := (Value.slice.inj hsl).2.2
          exact ⟨h1, h3⟩
        have e00 : ([x] : List Rx)[0] = x := rfl
        rw [e00] at hcell' hlies'
        have hxx0 := hx0 x (by simp)
        have hxx1 := hx1 x (by simp)
        have HXX := HX x (by simp)
        have hn1 : ([x] : List Rx).length = 1 := rfl
        by_cases c : mx = -1
        · subst c
          have e2 : timesF mn (-1) = (mn - 1).toNat + 1 := by unfold timesF; omega
          rw [e2, Nat.mul_comm] at hroom
          have KL := endless_lay x HXX hxx0 hxx1 n0 p ⟨L, beg⟩ W0.drew sv2 nx mn (m0.of_below (Below.refl _ W0).drew) (hlies'.stay (Below.refl _ W0).drew) (by show L.length + 1 + (1 + (mn - 1).toNat) * sizeR x ≤ 257; rw [Nat.add_comm 1]; omega) hnx m00 m01
          have hr : layR (.mk 3 mn (-1) s0 s1 s2 s3 [x]) nx L = endR (layR x) mn nx L := rfl
          dsimp only at KL
          rw [← hr] at KL
          unfold LayPost at KL
          have HOB : Hid (∀ w1, Oth n0 p W0.drew w1 → Oth n0 p w w1) := Lib.hid fun w1 ho => o0.trans ((Oth.of_below (Below.refl _ W0).drew (Nat.le_trans m0.base (Nat.le_of_lt m0.lt))).trans ho)
          obtain ⟨kk, mn', mx', t0, t1, t2, t3, ls⟩ := x
          obtain ⟨r0, r1, r2, r3, r4, r5, r6, r7⟩ := eight (w := W0) (wr := W0.drew) (i := 0) hcell' hab (Below.refl _ W0).drew
          unfold Rx.val Rx.cells cellsX at KL
          dsimp only at KL
          have KLH := Lib.hid KL
          have d1 : W0.drew.cell? ⟨X, 1, none⟩ = some (.int .i64 mn) := c1
          have d7 : W0.drew.cell? ⟨X, 7, none⟩ = some (.slice (some a) ([Rx.mk kk mn' mx' t0 t1 t2 t3 ls] : List Rx).length cap) := c7
          rw [show a.add (0 * 8) = a from rfl] at r0 r1 r2 r3 r4 r5 r6 r7
          rw [hn1] at *
          clear ih hz hz57 h hl hroom hnx hf hx0 hsum hlt57 htp hx1 HX hs1 hX hn0 hpX hB8 hW0 b0 x0 m0 o0 l0 hr KL k0 k2 m00 m01 m02 es hxx0 hxx1 HXX hsl hcell' hlies' e00 e2 hl1 hn1 hab
          go_enter Try.func30, Try.ntmps30
          go_wp2_with fail
          rw [HW0.out]
          go_wp2_with fail
          go_region_with (go_at_call 45; (with_reducible refine KLH.out.mono ?_); rintro e w1 ⟨rfl, hi, ho⟩; have HI := Lib.hid hi; have HO := Lib.hid (HOB.out _ ho); clear hi ho)
          all_goals
            go_wp2
            go_ret
            exact ⟨rfl, HI.out, HO.out⟩
        · have hm : mn ≤ mx ∧ mx ≤ 15 := by omega
          have e2 : timesF mn mx = (max 1 mx).toNat := by unfold timesF; omega
          obtain ⟨q, rfl⟩ := Int.eq_ofNat_of_zero_le (show 0 ≤ mx by omega)
          have hq : q ≤ timesF mn (q : Int) := by rw [e2]; omega
          have hq2 := Nat.mul_le_mul_left (sizeR x) hq
          have KL := times_lay x HXX hxx0 hxx1 n0 p ⟨L, beg⟩ W0.drew sv2 nx mn q (m0.of_below (Below.refl _ W0).drew) (hlies'.stay (Below.refl _ W0).drew) (by show L.length + q * sizeR x + 1 ≤ 257; rw [Nat.mul_comm q]; omega) hnx (by omega) m00 m01
          have hr : layR (.mk 3 mn (q : Int) s0 s1 s2 s3 [x]) nx L = ((layT (layR x) mn (q + 1) 0 nx 0 L).2.length, (layT (layR x) mn (q + 1) 0 nx 0 L).2 ++ [⟨0, 0, 0, 0, (layT (layR x) mn (q + 1) 0 nx 0 L).1⟩]) := by
            rw [show q + 1 = ((q : Int) + 1).toNat by omega]
            rw [layR]
            simp only []
            rw [if_neg (by decide), if_neg (by decide), if_pos trivial, if_neg c]
            rfl
          dsimp only at KL
          rw [← hr] at KL
          unfold LayPost at KL
          have HOB : Hid (∀ w1, Oth n0 p W0.drew w1 → Oth n0 p w w1) := Lib.hid fun w1 ho => o0.trans ((Oth.of_below (Below.refl _ W0).drew (Nat.le_trans m0.base (Nat.le_of_lt m0.lt))).trans ho)
          obtain ⟨kk, mn', mx', t0, t1, t2, t3, ls⟩ := x
          obtain ⟨r0, r1, r2, r3, r4, r5, r6, r7⟩ := eight (w := W0) (wr := W0.drew) (i := 0) hcell' hab (Below.refl _ W0).drew
          unfold Rx.val Rx.cells cellsX at KL
          dsimp only at KL
          have KLH := Lib.hid KL
          have d1 : W0.drew.cell? ⟨X, 1, none⟩ = some (.int .i64 mn) := c1
          have d2 : W0.drew.cell? ⟨X, 2, none⟩ = some (.int .i64 (q : Int)) := c2
          have d7 : W0.drew.cell? ⟨X, 7, none⟩ = some (.slice (some a) ([Rx.mk kk mn' mx' t0 t1 t2 t3 ls] : List Rx).length cap) := c7
          have hqi : ((q : Int) == -1) = false := by simp
          rw [show a.add (0 * 8) = a from rfl] at r0 r1 r2 r3 r4 r5 r6 r7
          rw [hn1] at *
          clear ih hz hz57 h hl hroom hnx hf hx0 hsum hlt57 htp hx1 HX hs1 hX hn0 hpX hB8 hW0 b0 x0 m0 o0 l0 hr KL k0 k2 m00 m01 m02 es hxx0 hxx1 HXX hsl hcell' hlies' e00 e2 hl1 hn1 hab hq hq2
          go_enter Try.func30, Try.ntmps30
          go_wp2_with fail
          rw [HW0.out]
          go_wp2_with fail
          go_region_with (go_at_call 46; (with_reducible refine KLH.out.mono ?_); rintro e w1 ⟨rfl, hi, ho⟩; have HI := Lib.hid hi; have HO := Lib.hid (HOB.out _ ho); clear hi ho)
          all_goals
            go_wp2
            go_ret
            exact ⟨rfl, HI.out, HO.out⟩
      · have hr : layR (.mk k mn mx s0 s1 s2 s3 l) nx L = layS l nx L := by
          rw [layR]
          simp only []
          rw [if_neg k0, if_neg k2, if_neg k3]
        rw [hr]
        exact seq_lay k mn mx s0 s1 s2 s3 l k0 k2 k3 HX hx0 hx1 n0 p L beg w ao cap nx h hl (by omega) hnx
end Go.Proofs.Ytdmajbdgjjmlkaa
