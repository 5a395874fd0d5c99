/- What is flushed stays: the walk of DiskFlushes. Conditions: sizes that a machine holds. -/
import Derived.Test.YtcmhpkeighenaaaAga
namespace Go.Proofs.Ytcmhpkeighenaaa
open Go.RowKit Go.Maps
set_option linter.unusedVariables false

theorem wrapI (x : Int) (h1 : -9223372036854775808 ≤ x) (h2 : x < 9223372036854775808) : IntKind.i64.wrap x = x := by rw [IntKind.wrap_i64]; omega
theorem wrapS (x : Int) (h1 : -9223372036854775808 ≤ x) (h2 : x < 9223372036854775808) : wrap64 x = x := by unfold wrap64; omega
theorem uu (c f k t o1 o2 n : Nat) (hhi : c ≤ 4096) (hfc : f ≤ c) (hkc : f + k ≤ c) (ht : t = f + k) (h1 : o1 = 128 * f) (h2 : o2 = 128 * (f + k)) (hn : n = 128 * c) :
    wrap64 (c : Int) = (c : Int) ∧ IntKind.i64.wrap ((c : Int) + 1) = (c : Int) + 1 ∧ IntKind.i64.wrap ((c : Int) - (f : Int)) = (c : Int) - (f : Int) ∧ IntKind.i64.wrap ((c : Int) - (f : Int) + 1) = (c : Int) - (f : Int) + 1 ∧
    IntKind.i64.wrap ((f : Int) + (k : Int)) = (t : Int) ∧ (128 : Int) * (f : Int) = (o1 : Int) ∧ (128 : Int) * (t : Int) = (o2 : Int) ∧ IntKind.i64.wrap (o1 : Int) = (o1 : Int) ∧ IntKind.i64.wrap (o2 : Int) = (o2 : Int) ∧
    (o1 : Int) ≤ (n : Int) ∧ (o2 : Int) ≤ (n : Int) ∧ (o1 : Int) ≤ (o2 : Int) := by
  have e : (f : Int) + (k : Int) = (t : Int) := by omega
  rw [e]
  refine ⟨wrapS _ (by omega) (by omega), wrapI _ (by omega) (by omega), wrapI _ (by omega) (by omega), wrapI _ (by omega) (by omega), wrapI _ (by omega) (by omega), by omega, by omega, wrapI _ (by omega) (by omega), wrapI _ (by omega) (by omega), by omega, by omega, by omega⟩
theorem ofL_extract (a : Bts) (x y : Nat) : (ofL a).extract x y = ofL ((a.drop x).take (y - x)) := by
  refine ofL_eq ?_
  rw [ByteArray.data_extract]
  simp [ofL]
/-- rows whose sectors from p up to q are the same -/
theorem seg_eq {a b : Bts} {c p q : Nat} (ha : a.length = 128 * c) (hb : b.length = 128 * c) (hpq : p ≤ q) (hq : q ≤ c) (h : ∀ i, p ≤ i → i < q → sec a i = sec b i) : (ofL a).extract (128 * p) (128 * q) = (ofL b).extract (128 * p) (128 * q) := by
  rw [ofL_extract, ofL_extract]
  congr 1
  apply List.ext_getElem?
  intro j
  rw [List.getElem?_take, List.getElem?_take, List.getElem?_drop, List.getElem?_drop]
  by_cases hj : j < 128 * q - 128 * p
  · rw [if_pos hj, if_pos hj]
    have h1 := h (p + j / 128) (by omega) (by omega)
    have h2 : (sec a (p + j / 128))[j % 128]? = (sec b (p + j / 128))[j % 128]? := by rw [h1]
    rw [sec_get _ _ _ (by omega), sec_get _ _ _ (by omega)] at h2
    rwa [show 128 * (p + j / 128) + j % 128 = 128 * p + j by omega] at h2
  · rw [if_neg hj, if_neg hj]
theorem left_sec {S : St} (h : S.ok) (f : Nat → Nat) (hf : ∀ i, f i ≤ 128) (i : Nat) (hi : i < S.count) : sec (S.left f) i = S.one f i := sec_secs (fun i hi => S.one_len h f hf i hi) i hi
theorem full_le : ∀ i, full i ≤ 128 := fun _ => Nat.le_refl _
theorem calm_one {S : St} (h : S.ok) (a b : Nat) (f : Nat → Nat) (i : Nat) (hi : i < S.count) : (S.calm a b).one f i = if a ≤ i ∧ i < b then S.one full i else S.one f i := by
  by_cases q : a ≤ i ∧ i < b
  · rw [if_pos q]
    have hw : (S.calm a b).wr i = none := by show (if a ≤ i ∧ i < b then none else S.wr i) = none; rw [if_pos q]
    rw [one_none hw, calm_safe h _ _ _ hi, if_pos q]
  · rw [if_neg q]
    have hw : (S.calm a b).wr i = S.wr i := by show (if a ≤ i ∧ i < b then none else S.wr i) = _; rw [if_neg q]
    unfold St.one
    rw [hw, calm_safe h _ _ _ hi, if_neg q]
theorem calm_image {S : St} (h : S.ok) (a b : Nat) : (S.calm a b).image = S.image := by
  have hc := h.calm a b
  have e := S.calm_count h a b
  refine ext_sec (c := S.count) (by rw [← e]; exact (S.calm a b).left_len hc full full_le) (S.left_len h full full_le) fun i hi => ?_
  show sec ((S.calm a b).left full) i = sec (S.left full) i
  rw [left_sec hc full full_le i (by rw [e]; exact hi), left_sec h full full_le i hi, calm_one h a b full i hi]
  split <;> rfl
set_option maxRecDepth 20000 in
set_option maxHeartbeats 4000000 in
theorem flushes_any (s : ByteArray) (v : Value) (l : List Opr) (x y : Int) (va : Value) (ch : List Int) (w : World) (hs : s.size ≤ 140737488355328) (hsc : Script w v l) (hx : In64 x) (hy : In64 y) (hA : ChOk w va ch) :
    Calls Try.prog 5 #[.string s, v, .agg #[.int .i64 x, .int .i64 y, va]] w fun e w' => e = .returned (.bool true) ∧ Below w.heap.size w w' := by
  obtain ⟨B0, hB0⟩ : ∃ B0, B0 = w.heap.size := ⟨_, rfl⟩
  obtain ⟨q, nn, cap, ea⟩ := hA.1.slice
  subst ea
  obtain ⟨w0, hw0⟩ : ∃ w0, w0 = ((w.alloc (.cells #[.int .i64 x, .int .i64 y, .slice q nn cap] 51)).alloc (.cells #[.int .i64 x, .int .i64 y] 49)).drew := ⟨_, rfl⟩
  have hb0 : Below w.heap.size w w0 := by rw [hw0]; exact below_drew (((Below.refl _ w).alloc (Nat.le_refl _) _).alloc (by simp) _)
  have hblk : w0.heap[B0 + 1]? = some (.cells #[.int .i64 x, .int .i64 y] 49 (0, 0)) := by
    have := block_new (w.alloc (.cells #[.int .i64 x, .int .i64 y, .slice q nn cap] 51)) (.cells #[.int .i64 x, .int .i64 y] 49)
    rw [hw0, hB0]
    have e : (w.alloc (.cells #[.int .i64 x, .int .i64 y, .slice q nn cap] 51)).heap.size = w.heap.size + 1 := by simp
    rw [e] at this
    exact this
  have kfix : Hid (∀ W, Calls Try.prog 10 #[] W fun e w' => e = .returned (.bool true) ∧ Below W.heap.size W w') := fun W => fixed_any W
  have HB0 := Lib.hid hB0
  have HH := Lib.hid (And.intro hb0 (And.intro hblk hA))
  have hsc0 := Lib.hid (hsc.below hb0)
  have HW0 := Lib.hid hw0
  have HXY := Lib.hid (And.intro hx hy)
  by_cases bad : Bad s
  · have k1 := Lib.hid (made_bad s v w0 hs bad)
    have k2 : Hid (∀ W, Calls Try.prog 9 #[.string s] W fun e w' => e = .returned (.tuple #[.pointer none, .int .i64 70]) ∧ Below W.heap.size W w') := fun W => rnew_bad s bad hs W
    clear hw0 hb0 hblk hA hsc hs bad hB0 hx hy
    go_enter Try.func5, Try.ntmps5
    go_wp2
    go_region
    rw [← HW0.out]
    go_wp2_with (fail)
    refine k1.out.mono ?_
    rintro e v1 ⟨rfl, b1⟩
    go_wp2_with (fail)
    refine (k2.out _).mono ?_
    rintro e v2 ⟨rfl, b2⟩
    go_wp2_with (fail)
    refine (kfix.out _).mono ?_
    rintro e v3 ⟨rfl, b3⟩
    go_wp2
    go_ret
    exact ⟨rfl, HH.out.1.trans ((below_trans (below_trans b1 b2) b3).mono HH.out.1.size)⟩
  · have k1 := Lib.hid (made_any s v l w0 hs bad hsc0.out)
    have HBAD := Lib.hid bad
    have HS := Lib.hid hs
    clear hw0 hb0 hblk hA hsc bad hB0 hx hy hs
    go_enter Try.func5, Try.ntmps5
    go_wp2
    go_region
    rw [← HW0.out, ← HB0.out]
    go_wp2_with (fail)
    refine k1.out.mono ?_
    rintro e v1 ⟨p, S, rfl, a1, hcalm, b1⟩
    obtain ⟨B, hB⟩ : ∃ B, B = w0.heap.size := ⟨_, rfl⟩
    rw [← hB] at a1 b1
    have HBB : Hid (B0 ≤ B) := by unfold Hid; rw [hB, HB0.out]; exact HH.out.1.size
    have g1 : Below B0 w v1 := by rw [HB0.out]; exact HH.out.1.trans (b1.mono (by rw [hB]; exact HH.out.1.size))
    have s1' : B ≤ v1.heap.size := by have := b1.size; omega
    have hcB : Hid (∀ W, Below B w0 W → W.cell? ⟨B0 + 1, 0, none⟩ = some (.int .i64 x) ∧ W.cell? ⟨B0 + 1, 1, none⟩ = some (.int .i64 y)) := fun W hW => by
      rw [hB] at hW
      exact ⟨cell_below (by rw [cell_of_row _ _ _ _ _ _ HH.out.2.1]; rfl) hW, cell_below (by rw [cell_of_row _ _ _ _ _ _ HH.out.2.1]; rfl) hW⟩
    have hcA : Hid (∀ W, Below B0 w W → ChOk W (.slice q nn cap) ch) := fun W hW => by
      rw [HB0.out] at hW
      exact HH.out.2.2.below hW
    have h0 : Below B w0 v1 := b1
    clear b1 hB
    -- the states
    have hok := hcalm.ok
    obtain ⟨c, hc⟩ : ∃ c, c = S.count := ⟨_, rfl⟩
    have hlen := hok.len
    have hlo := hok.lo
    have hhi := hok.hi
    have hsl := hcalm.len
    rw [← hc] at hlen hlo hhi
    obtain ⟨f, hf⟩ : ∃ f : Nat, x % ((c : Int) + 1) = (f : Int) := ⟨(x % ((c : Int) + 1)).toNat, by have := Int.emod_nonneg x (show (c : Int) + 1 ≠ 0 by omega); omega⟩
    have hfc : f ≤ c := by have := Int.emod_lt_of_pos x (show 0 < (c : Int) + 1 by omega); omega
    obtain ⟨k, hk⟩ : ∃ k : Nat, y % ((c : Int) - (f : Int) + 1) = (k : Int) := ⟨(y % ((c : Int) - (f : Int) + 1)).toNat, by have := Int.emod_nonneg y (show (c : Int) - (f : Int) + 1 ≠ 0 by omega); omega⟩
    have hkc : f + k ≤ c := by have := Int.emod_lt_of_pos y (show 0 < (c : Int) - (f : Int) + 1 by omega); omega
    obtain ⟨S2, hS2⟩ : ∃ S2, S2 = S.calm f (f + k) := ⟨_, rfl⟩
    have hfl : S.flush (f : Int) (k : Int) = (S2, 0) := by
      unfold St.flush
      rw [if_neg (by rw [hcalm.dead]; exact Bool.false_ne_true), if_neg (by omega), hcalm.change, if_pos rfl, hS2, Int.toNat_natCast, Int.toNat_natCast]
    have hok2 : S2.ok := by rw [hS2]; exact hok.calm _ _
    have hc2 : S2.count = c := by rw [hS2, S.calm_count hok, hc]
    obtain ⟨Xi, hXi⟩ : ∃ X, X = ofL S.image := ⟨_, rfl⟩
    obtain ⟨Xs, hXs⟩ : ∃ X, X = ofL S.safe := ⟨_, rfl⟩
    obtain ⟨Xn, hXn⟩ : ∃ X, X = ofL S2.safe := ⟨_, rfl⟩
    obtain ⟨Xl, hXl⟩ : ∃ X, X = ofL (S2.after ch) := ⟨_, rfl⟩
    have li : S.image.length = 128 * c := by rw [hc]; exact S.left_len hok full full_le
    have ln : S2.safe.length = 128 * c := by rw [← hc2]; exact hok2.len
    have ll : (S2.after ch).length = 128 * c := by rw [← hc2]; exact S2.left_len hok2 (part ch) (part_le ch)
    have zi : Xi.size = s.size := by rw [hXi, ofL_size, li]; omega
    have zs : Xs.size = s.size := by rw [hXs, ofL_size]; omega
    have zn : Xn.size = s.size := by rw [hXn, ofL_size, ln]; omega
    have zl : Xl.size = s.size := by rw [hXl, ofL_size, ll]; omega
    have i2 : ofL S2.image = Xi := by rw [hXi, hS2, calm_image hok]
    obtain ⟨o1, ho1⟩ : ∃ o, o = 128 * f := ⟨_, rfl⟩
    obtain ⟨o2, ho2⟩ : ∃ o, o = 128 * (f + k) := ⟨_, rfl⟩
    have n2 : ∀ i, i < c → sec S2.safe i = if f ≤ i ∧ i < f + k then S.one full i else sec S.safe i := fun i hi => by rw [hS2, calm_safe hok _ _ _ (by omega)]
    have e1 : Xn.extract 0 o1 = Xs.extract 0 o1 := by
      have := seg_eq (a := S2.safe) (b := S.safe) (c := c) (p := 0) (q := f) ln hlen (Nat.zero_le _) hfc (fun i _ h2 => by rw [n2 i (by omega), if_neg (by omega)])
      rw [hXn, hXs, ho1]; simpa using this
    have e2 : Xn.extract o2 s.size = Xs.extract o2 s.size := by
      have := seg_eq (a := S2.safe) (b := S.safe) (c := c) (p := f + k) (q := c) ln hlen hkc (Nat.le_refl _) (fun i h1 h2 => by rw [n2 i h2, if_neg (by omega)])
      rw [hXn, hXs, ho2, show s.size = 128 * c by omega]; exact this
    have e3 : Xn.extract o1 o2 = Xi.extract o1 o2 := by
      have := seg_eq (a := S2.safe) (b := S.image) (c := c) (p := f) (q := f + k) ln li (by omega) hkc (fun i h1 h2 => by
        rw [n2 i (by omega), if_pos ⟨h1, h2⟩]; exact (left_sec hok full full_le i (by omega)).symm)
      rw [hXn, hXi, ho1, ho2]; exact this
    have e4 : Xl.extract o1 o2 = Xi.extract o1 o2 := by
      have := seg_eq (a := S2.after ch) (b := S.image) (c := c) (p := f) (q := f + k) ll li (by omega) hkc (fun i h1 h2 => by
        show sec (S2.left (part ch)) i = sec (S.left full) i
        rw [left_sec hok2 _ (part_le ch) i (by omega), left_sec hok full full_le i (by omega), hS2, calm_one hok _ _ _ i (by omega), if_pos ⟨h1, h2⟩])
      rw [hXl, hXi, ho1, ho2]; exact this
    have kim : Hid (∀ W, At W B p S → Calls Try.prog 17 #[.pointer (some ⟨p, 0, none⟩)] W fun e w' => e = .returned (.string Xi) ∧ Below W.heap.size W w') := fun W h => by have := image_at B p S W h; rw [← hXi] at this; exact this
    have ksf : Hid (∀ W, At W B p S → Calls Try.prog 18 #[.pointer (some ⟨p, 0, none⟩)] W fun e w' => e = .returned (.string Xs) ∧ Below W.heap.size W w') := fun W h => by have := safe_at B p S W h; rw [← hXs] at this; exact this
    have kct : Hid (∀ W, At W B p S → Calls Try.prog 21 #[.pointer (some ⟨p, 0, none⟩)] W fun e w' => e = .returned (.int .i64 (c : Int)) ∧ W = w') := fun W h => by have := count_at B p S W h; rw [← hc] at this; exact this
    have kq : Hid (∀ W, At W B p S → ∀ m, Calls Try.prog 21 #[.pointer (some ⟨p, 0, none⟩)] (W.drewN m) fun e w' => e = .returned (.int .i64 (c : Int)) ∧ w' = W.drewN m) := fun W h m => (kct.out (W.drewN m) (h.below (below_drewN (Below.refl _ W) m))).mono fun _ _ q => ⟨q.1, q.2.symm⟩
    have kr1 : Hid (∀ W, Calls Try.prog 11 #[.int .i64 x, .int .i64 ((c : Int) + 1)] W fun e w' => e = .returned (.int .i64 (f : Int)) ∧ w' = W) := fun W => (rem_any x ((c : Int) + 1) HXY.out.1 (by omega) W).mono fun _ _ q => ⟨by rw [← hf]; exact q.1, q.2.symm⟩
    have kr2 : Hid (∀ W, Calls Try.prog 11 #[.int .i64 y, .int .i64 ((c : Int) - (f : Int) + 1)] W fun e w' => e = .returned (.int .i64 (k : Int)) ∧ w' = W) := fun W => (rem_any y ((c : Int) - (f : Int) + 1) HXY.out.2 (by omega) W).mono fun _ _ q => ⟨by rw [← hk]; exact q.1, q.2.symm⟩
    have kfl : Hid (∀ W, At W B p S → B ≤ W.heap.size → Calls Try.prog 23 #[.pointer (some ⟨p, 0, none⟩), .int .i64 (f : Int), .int .i64 (k : Int)] W fun e w' => e = .returned (.int .i64 0) ∧ At w' B p S2 ∧ Below B W w') := fun W h hBs => by have := flush_at B p S W h hBs (f : Int) (k : Int) (by unfold In64; omega) (by unfold In64; omega); rw [hfl] at this; exact this
    have kim2 : Hid (∀ W, At W B p S2 → Calls Try.prog 17 #[.pointer (some ⟨p, 0, none⟩)] W fun e w' => e = .returned (.string Xi) ∧ Below W.heap.size W w') := fun W h => by have := image_at B p S2 W h; rw [i2] at this; exact this
    have ksf2 : Hid (∀ W, At W B p S2 → Calls Try.prog 18 #[.pointer (some ⟨p, 0, none⟩)] W fun e w' => e = .returned (.string Xn) ∧ Below W.heap.size W w') := fun W h => by have := safe_at B p S2 W h; rw [← hXn] at this; exact this
    have kaf : Hid (∀ W, At W B p S2 → Below B0 w W → Calls Try.prog 19 #[.pointer (some ⟨p, 0, none⟩), .slice q nn cap] W fun e w' => e = .returned (.string Xl) ∧ Below W.heap.size W w') := fun W h hW => by have := after_at B p S2 W h _ _ ch (hcA.out W hW).1; rw [← hXl] at this; exact this
    have et : (s.size : Int).tdiv 128 = (c : Int) := by rw [Int.tdiv_eq_ediv_of_nonneg (by omega)]; omega
    obtain ⟨u0, u1, u2, u3, u4, u5, u6, u7, u8, u9, u10, u11⟩ := uu c f k (f + k) o1 o2 s.size hhi hfc hkc rfl ho1 ho2 (by rw [← hsl]; exact hlen)
    obtain ⟨E1, hE1⟩ : ∃ E, Xs.extract 0 o1 = E := ⟨_, rfl⟩
    obtain ⟨E2, hE2⟩ : ∃ E, Xs.extract o2 s.size = E := ⟨_, rfl⟩
    obtain ⟨E3, hE3⟩ : ∃ E, Xi.extract o1 o2 = E := ⟨_, rfl⟩
    rw [hE1] at e1
    rw [hE2] at e2
    rw [hE3] at e3 e4
    obtain ⟨t, ht⟩ : ∃ t, t = f + k := ⟨_, rfl⟩
    rw [← ht] at u4 u6
    have HU := Lib.hid (And.intro e1 (And.intro e2 (And.intro e3 (And.intro e4 (And.intro hE1 (And.intro hE2 hE3))))))
    have HU2 := Lib.hid (And.intro u2 u3)
    have HU4 := Lib.hid (And.intro u4 (And.intro u5 (And.intro u6 (And.intro u7 (And.intro u8 (And.intro u9 (And.intro u10 u11)))))))
    clear u2 u3 u4 u5 u6 u7 u8 u9 u10 u11
    clear hcalm hok hlen hlo hhi hsl hf hfc hk hkc hS2 hfl hok2 hc2 hXi hXs hXn hXl li ln ll i2 ho1 ho2 n2 ht hc e1 e2 e3 e4 hE1 hE2 hE3
    go_wp2_with (fail)
    refine (kim.out _ a1).mono ?_
    rintro e v2 ⟨rfl, b2⟩
    have a2 := a1.below b2
    have g2 : Below B0 w v2 := g1.trans (b2.mono (by have := HBB.out; omega))
    have s2' : B ≤ v2.heap.size := Nat.le_trans s1' b2.size
    replace h0 : Below B w0 v2 := h0.trans (b2.mono s1')
    clear a1 g1 s1' b2
    go_wp2_with (fail)
    refine (ksf.out _ a2).mono ?_
    rintro e v3 ⟨rfl, b3⟩
    have a3 := a2.below b3
    have g3 : Below B0 w v3 := g2.trans (b3.mono (by have := HBB.out; omega))
    have s3' : B ≤ v3.heap.size := Nat.le_trans s2' b3.size
    replace h0 : Below B w0 v3 := h0.trans (b3.mono s2')
    clear a2 g2 s2' b3
    go_wp2_with (fail)
    refine (kct.out _ a3).mono ?_
    rintro e _ ⟨rfl, rfl⟩
    have y1 := (hcB.out _ h0).1
    have y2 := (hcB.out _ h0).2
    have kq1 := Lib.hid (kq.out _ a3)
    clear y2
    go_wp2_with (fail)
    go_quiet ((first | (go_at_call 21; exact Calls.quiet_of_same (kq1.out _)) | (go_at_call 11; exact Calls.quiet_of_same (kr1.out _))))
    have a4 := a3.below (below_drewN (Below.refl _ v3) nq)
    have g4 : Below B0 w (v3.drewN nq) := below_drewN g3 nq
    have s4' : B ≤ (v3.drewN nq).heap.size := s3'
    have h4 : Below B w0 (v3.drewN nq) := below_drewN h0 nq
    clear a3 g3 s3' h0 y1 kq1
    generalize v3.drewN nq = v4 at *
    have kq2 := Lib.hid (kq.out _ a4)
    have y2 := (hcB.out _ h4).2
    have u2 := HU2.out.1
    have u3 := HU2.out.2
    clear u1
    go_wp2_with (fail)
    go_quiet ((first | (go_at_call 21; exact Calls.quiet_of_same (kq2.out _)) | (go_at_call 11; exact Calls.quiet_of_same (kr2.out _))))
    have a5 := a4.below (below_drewN (Below.refl _ v4) nq)
    have g5 : Below B0 w (v4.drewN nq) := below_drewN g4 nq
    have s5' : B ≤ (v4.drewN nq).heap.size := s4'
    have h0 : Below B w0 (v4.drewN nq) := below_drewN h4 nq
    clear a4 g4 s4' h4 y2 kq2 u2 u3
    generalize v4.drewN nq = v5 at *
    go_wp2_with (fail)
    refine (kfl.out _ a5 s5').mono ?_
    rintro e v6 ⟨rfl, a6, b6⟩
    have g6 : Below B0 w v6 := g5.trans (b6.mono HBB.out)
    have s6' : B ≤ v6.heap.size := Nat.le_trans s5' b6.size
    replace h0 : Below B w0 v6 := h0.trans b6
    clear a5 g5 s5' b6
    go_wp2_with (fail)
    refine (kim2.out _ a6).mono ?_
    rintro e v7 ⟨rfl, b7⟩
    have a7 := a6.below b7
    have g7 : Below B0 w v7 := g6.trans (b7.mono (by have := HBB.out; omega))
    have s7' : B ≤ v7.heap.size := Nat.le_trans s6' b7.size
    replace h0 : Below B w0 v7 := h0.trans (b7.mono s6')
    clear a6 g6 s6' b7
    go_wp2_with (fail)
    refine (ksf2.out _ a7).mono ?_
    rintro e v8 ⟨rfl, b8⟩
    have a8 := a7.below b8
    have g8 : Below B0 w v8 := g7.trans (b8.mono (by have := HBB.out; omega))
    have s8' : B ≤ v8.heap.size := Nat.le_trans s7' b8.size
    replace h0 : Below B w0 v8 := h0.trans (b8.mono s7')
    clear a7 g7 s7' b8
    obtain ⟨e1, e2, e3, e4, hE1, hE2, hE3⟩ := HU.out
    obtain ⟨u4, u5, u6, u7, u8, u9, u10, u11⟩ := HU4.out
    go_wp2_with (fail)
    go_quiet (fail)
    have a9 := a8.below (below_drewN (Below.refl _ v8) nq)
    have g9 : Below B0 w (v8.drewN nq) := below_drewN g8 nq
    have s9' : B ≤ (v8.drewN nq).heap.size := s8'
    clear a8 g8 s8' h0 e1 e2 hE1 hE2
    generalize v8.drewN nq = v9 at *
    go_wp2_with (fail)
    refine (kaf.out _ a9 g9).mono ?_
    rintro e v10 ⟨rfl, b10⟩
    have g10 : Below B0 w v10.drew := below_drew (g9.trans (b10.mono (by have := HBB.out; omega)))
    have HG := Lib.hid g10
    clear a9 g9 s9' g10 b10
    go_wp2
    go_region_held3 (fun W => True) (exact trivial)
      (first
        | (go_at_call 10; (with_reducible refine (kfix.out _).mono ?_); rintro e v11 ⟨rfl, b11⟩))
    go_wp2
    go_ret
    exact ⟨rfl, by rw [← HB0.out]; exact HG.out.trans (b11.mono (Nat.le_trans (by rw [HB0.out]; exact Nat.le_refl _) HG.out.size))⟩
end Go.Proofs.Ytcmhpkeighenaaa
