/- The machine of an expression: what the call returns; nothing that was there turns. Conditions: the expression lies in memory, its sets' numbers are of 64 bits. -/
import Derived.Test.YtdmajbdgjjmlkaaLal
import Derived.Test.YtdmajbdgjjmlkaaFlx
namespace Go.Proofs.Ytdmajbdgjjmlkaa
open Go.RowKit
set_option linter.unusedVariables false
set_option linter.unusedSimpArgs false

mutual
/-- the sets are of a machine's numbers -/
def okR : Rx → Prop
  | .mk k mn mx s0 s1 s2 s3 l => ((0 ≤ s0 ∧ s0 < 18446744073709551616) ∧ (0 ≤ s1 ∧ s1 < 18446744073709551616) ∧ (0 ≤ s2 ∧ s2 < 18446744073709551616) ∧ (0 ≤ s3 ∧ s3 < 18446744073709551616)) ∧ okL l
def okL : List Rx → Prop
  | [] => True
  | x :: l => okR x ∧ okL l
end
theorem okL_mem : ∀ (l : List Rx), okL l → ∀ x ∈ l, okR x
  | [], _, x, h => by cases h
  | y :: l, h, x, hx => by
    rw [okL] at h
    rcases List.mem_cons.1 hx with rfl | hx
    · exact h.1
    · exact okL_mem l h.2 x hx
theorem OkS.snoc {L : List Sta} (h : OkS L) {x : Sta} (hx : x.ok) : OkS (L ++ [x]) := fun y hy => by
  rcases List.mem_append.1 hy with hy | hy
  · exact h y hy
  · simp at hy; subst hy; exact hx
theorem zsta_ok (bs : Nat) : (⟨0, 0, 0, 0, bs⟩ : Sta).ok := by unfold Sta.ok; simp
theorem layT_okS {f : Nat → List Sta → Nat × List Sta} (hf : ∀ nx L, OkS L → OkS (f nx L).2) (least : Int) : ∀ (c left nx bs : Nat) (L : List Sta), OkS L → OkS (layT f least c left nx bs L).2
  | 0, left, nx, bs, L, h => h
  | c + 1, left, nx, bs, L, h => by
    rw [layT]
    refine layT_okS hf least c _ _ _ _ ?_
    split
    · exact hf nx L h
    · exact h
theorem layN_okS {f : Nat → List Sta → Nat × List Sta} (hf : ∀ nx L, OkS L → OkS (f nx L).2) : ∀ (c b : Nat) (L : List Sta), OkS L → OkS (layN f c b L).2
  | 0, b, L, h => h
  | c + 1, b, L, h => by rw [layN]; exact layN_okS hf c _ _ (hf b L h)
theorem layS_okS : ∀ (l : List Rx), (∀ x ∈ l, ∀ nx L, OkS L → OkS (layR x nx L).2) → ∀ nx L, OkS L → OkS (layS l nx L).2
  | [], _, nx, L, h => h
  | x :: l, hx, nx, L, h => by
    have e : layS (x :: l) nx L = layR x (layS l nx L).1 (layS l nx L).2 := rfl
    rw [e]
    exact hx x (by simp) _ _ (layS_okS l (fun y hy => hx y (by simp [hy])) nx L h)
theorem layA_okS : ∀ (l : List Rx), (∀ x ∈ l, ∀ nx L, OkS L → OkS (layR x nx L).2) → ∀ nx bs L, OkS L → OkS (layA l nx bs L).2
  | [], _, nx, bs, L, h => h
  | x :: l, hx, nx, bs, L, h => by
    have e : layA (x :: l) nx bs L = layA l nx (bs ||| bitN (layR x nx L).1) (layR x nx L).2 := rfl
    rw [e]
    exact layA_okS l (fun y hy => hx y (by simp [hy])) nx _ _ (hx x (by simp) nx L h)
theorem layH_okS : ∀ (l : List Rx), (∀ x ∈ l, ∀ nx L, OkS L → OkS (layR x nx L).2) → ∀ nx L, OkS L → OkS (layH l nx L).2
  | [], _, nx, L, h => h
  | x :: l, hx, nx, L, h => hx x (by simp) nx L h
theorem layR_okS : ∀ t : Rx, okR t → ∀ nx L, OkS L → OkS (layR t nx L).2 := by
  intro t
  refine Rx.ind (P := fun t => okR t → ∀ nx L, OkS L → OkS (layR t nx L).2) ?_ t
  intro k mn mx s0 s1 s2 s3 l ih h nx L hL
  rw [okR] at h
  have ih' : ∀ x ∈ l, ∀ nx L, OkS L → OkS (layR x nx L).2 := fun x hx => ih x hx (okL_mem l h.2 x hx)
  rw [layR]
  simp only []
  split
  · exact hL.snoc h.1
  · split
    · exact (layA_okS l ih' nx 0 L hL).snoc (zsta_ok _)
    · split
      · split
        · have h1 : OkS (setNx (layH l L.length (L ++ [⟨0, 0, 0, 0, 0⟩])).2 L.length (bitN nx ||| bitN (layH l L.length (L ++ [⟨0, 0, 0, 0, 0⟩])).1)) := (layH_okS l ih' _ _ (hL.snoc (zsta_ok _))).setNx _ _
          split
          · exact h1
          · exact layN_okS (layH_okS l ih') _ _ _ h1
        · exact (layT_okS (layH_okS l ih') mn _ _ _ _ _ hL).snoc (zsta_ok _)
      · exact layS_okS l ih' nx L hL
theorem followAll_okS : ∀ (c i : Nat) (K : List Sta), OkS K → OkS (followAll c i K)
  | 0, _, K, h => h
  | c + 1, i, K, h => by rw [followAll]; exact followAll_okS c _ _ (h.setNx _ _)
theorem followAll_len : ∀ (c i : Nat) (K : List Sta), (followAll c i K).length = K.length
  | 0, _, K => rfl
  | c + 1, i, K => by rw [followAll, followAll_len c, setNx_len]
/-- the machine of an expression is as one may be -/
theorem mac_mok {t : Rx} (h0 : sizeR t ≠ 0) (h1 : sizeR t < 257) (ho : okR t) : Mok (macR t) := by
  obtain ⟨hf, hb, _, hl, _, _⟩ := mac_fine h0 h1
  refine ⟨?_, hf.lo, hl, ?_, hb⟩
  · exact followAll_okS _ _ _ (layR_okS t ho 0 _ (by intro x hx; simp at hx; subst hx; exact zsta_ok 0))
  · show 0 < (followAll _ _ _).length
    rw [followAll_len]
    have := (layR_ok t h0 [⟨0, 0, 0, 0, 0⟩] 0 (by simp) (by simp)).len
    simp at this
    omega
/-- what New returns -/
def NewPost (t : Rx) (w : World) (e : Ending) (w' : World) : Prop := Below w.heap.size w w' ∧
  ((checkR t ≠ 0 ∧ e = .returned (.tuple #[.pointer none, .int .i64 (checkR t)])) ∨ (checkR t = 0 ∧ ∃ p, e = .returned (.tuple #[.pointer (some ⟨p, 0, none⟩), .int .i64 0]) ∧ IsM w.heap.size p (macR t) w' ∧ Mok (macR t)))
set_option maxRecDepth 100000 in
set_option maxHeartbeats 4000000 in
theorem new_any {ok : Nat → Prop} (w : World) (t : Rx) (v : Value) (hl : LiesL ok w v t.list) (hok : okR t) : Calls Try.prog 11 #[t.val v] w (NewPost t w) := by
  obtain ⟨n0, hX⟩ : ∃ n0, n0 = w.heap.size := ⟨_, rfl⟩
  have hzz : w.heap.size = n0 := hX.symm
  obtain ⟨ao, cap, rfl⟩ := hl.value
  have hl0 : LiesL (· < n0) w (.slice ao t.list.length cap) t.list := hl.kept (Nat.le_refl _) (fun _ _ _ => rfl) (fun b _ hb => by omega)
  have KC := fun w1 (hb : Below w.heap.size w w1) => check_any w1 (.slice ao t.list.length cap) t (hl.stay hb)
  have KM := fun (h0 : sizeR t ≠ 0) (h1 : sizeR t < 257) => lay_all t h0 h1
  have MF := fun (h0 : sizeR t ≠ 0) (h1 : sizeR t < 257) => lo_lay h0 h1
  have MK := fun (h0 : sizeR t ≠ 0) (h1 : sizeR t < 257) => mac_mok h0 h1 hok
  have OK := layR_okS t hok 0 [⟨0, 0, 0, 0, 0⟩] (by intro x hx; simp at hx; subst hx; exact zsta_ok 0)
  have hsz : (checkR t ≠ 0) ∨ (sizeR t ≠ 0 ∧ sizeR t < 257 ∧ checkR t = 0) := by
    have hle := sizeR_le t
    unfold checkR
    by_cases a : sizeR t = 0
    · left; rw [if_pos a]; decide
    · by_cases b : sizeR t = 257
      · left; rw [if_neg a, if_pos b]; decide
      · right; rw [if_neg a, if_neg b]; exact ⟨a, by omega, rfl⟩
  unfold NewPost macR
  dsimp only
  rw [hzz]
  obtain ⟨W0, hW0⟩ : ∃ W0, W0 = w.alloc (.cells (t.cells (.slice ao t.list.length cap)) 26) := ⟨_, rfl⟩
  have b0 : Below w.heap.size w W0 := by rw [hW0]; exact below_new w _
  have x0 : W0.heap[n0]? = some (.cells (t.cells (.slice ao t.list.length cap)) 26 (0, 0)) := by rw [hW0, hX]; exact heap_alloc_new w _
  have KC0 := KC W0 b0
  obtain ⟨r, hr⟩ : ∃ r, r = layR t 0 [⟨0, 0, 0, 0, 0⟩] := ⟨_, rfl⟩
  unfold macR at MK
  dsimp only at MK
  rw [← hr] at MF OK MK ⊢
  have KL := fun (h0 : sizeR t ≠ 0) (h1 : sizeR t < 257) (p : Nat) (beg : Nat) (w1 : World) (a : IsM n0 p ⟨[⟨0, 0, 0, 0, 0⟩], beg⟩ w1) (b : LiesL (· < n0) w1 (.slice ao t.list.length cap) t.list) => lay_all t h0 h1 n0 p ⟨[⟨0, 0, 0, 0, 0⟩], beg⟩ w1 (.slice ao t.list.length cap) 0 a b (by show 1 + sizeR t ≤ 257; omega) (by show 0 < 1; omega)
  unfold LayPost at KL
  dsimp only at KL
  rw [← hr] at KL
  obtain ⟨ck, hck⟩ : ∃ ck, ck = checkR t := ⟨_, rfl⟩
  rw [← hck] at KC0 hsz ⊢
  have HSZ := hsz
  generalize sizeR t = sz at *
  have hzero : (⟨0, 0, 0, 0, 0⟩ : Sta) = ⟨0, 0, 0, 0, 0⟩ := rfl
  obtain ⟨k, mn, mx, s0, s1, s2, s3, l⟩ := t
  unfold Rx.val at KC0 KL ⊢
  dsimp only [Rx.cells, cellsX, Rx.list] at *
  have HW0 : Hid (w.alloc (.cells #[.int .i64 k, .int .i64 mn, .int .i64 mx, .int .u64 s0, .int .u64 s1, .int .u64 s2, .int .u64 s3, .slice ao l.length cap] 26) = W0) := Lib.hid hW0.symm
  obtain ⟨c0, c1, c2, c3, c4, c5, c6, c7⟩ := cells8_at x0
  have HKC := Lib.hid KC0
  have hn0 : n0 ≤ W0.heap.size := by have := b0.size; omega
  rcases hsz with hc | ⟨hs0, hs1, hc⟩
  · have hcb : (ck == 0) = false := by simpa using hc
    have HH := Lib.hid (And.intro hc b0)
    clear hl hl0 KC KM MF MK OK b0 x0 KC0 KL HSZ hX hW0 hr hck hok hn0 hc
    go_enter Try.func11, Try.ntmps11
    go_wp2_with fail
    rw [HW0.out]
    go_wp2_with (go_at_call 28; (with_reducible refine HKC.out.mono ?_); rintro e w1 ⟨rfl, hb1⟩; have HB1 := Lib.hid hb1; clear hb1)
    refine bodyPost_ret (v := .tuple #[.pointer none, .int .i64 ck]) (by simp [results, Try.results11, go_sem]) rfl ⟨?_, .inl ⟨HH.out.1, rfl⟩⟩
    have := HH.out.2
    rw [hzz] at this
    exact this.trans (HB1.out.mono (by have := HH.out.2.size; omega))
  · subst hc
    obtain ⟨m1, m2, m3⟩ := MF hs0 hs1
    have mk := MK hs0 hs1
    have kl := KL hs0 hs1
    -- the world behind the check, the row and the machine
    have ST : Hid (∀ w1 Y, w1.heap.size = Y → Below W0.heap.size W0 w1 → IsM n0 (Y + 1) ⟨[⟨0, 0, 0, 0, 0⟩], 0⟩ ((w1.alloc (.cells #[.int .u64 0, .int .u64 0, .int .u64 0, .int .u64 0, .int .u64 0, .int .u64 0, .int .u64 0, .int .u64 0, .int .u64 0] 59)).alloc (.cells #[.slice (some ⟨Y, 0, none⟩) 1 1, .int .u64 0, .int .u64 0, .int .u64 0, .int .u64 0, .int .u64 0] 62)) ∧ Below n0 w ((w1.alloc (.cells #[.int .u64 0, .int .u64 0, .int .u64 0, .int .u64 0, .int .u64 0, .int .u64 0, .int .u64 0, .int .u64 0, .int .u64 0] 59)).alloc (.cells #[.slice (some ⟨Y, 0, none⟩) 1 1, .int .u64 0, .int .u64 0, .int .u64 0, .int .u64 0, .int .u64 0] 62)) ∧ n0 < Y ∧ ((w1.alloc (.cells #[.int .u64 0, .int .u64 0, .int .u64 0, .int .u64 0, .int .u64 0, .int .u64 0, .int .u64 0, .int .u64 0, .int .u64 0] 59)).alloc (.cells #[.slice (some ⟨Y, 0, none⟩) 1 1, .int .u64 0, .int .u64 0, .int .u64 0, .int .u64 0, .int .u64 0] 62)).heap[n0]? = some (.cells #[.int .i64 k, .int .i64 mn, .int .i64 mx, .int .u64 s0, .int .u64 s1, .int .u64 s2, .int .u64 s3, .slice ao l.length cap] 26 (0, 0)) ∧ LiesL (· < n0) ((w1.alloc (.cells #[.int .u64 0, .int .u64 0, .int .u64 0, .int .u64 0, .int .u64 0, .int .u64 0, .int .u64 0, .int .u64 0, .int .u64 0] 59)).alloc (.cells #[.slice (some ⟨Y, 0, none⟩) 1 1, .int .u64 0, .int .u64 0, .int .u64 0, .int .u64 0, .int .u64 0] 62)) (.slice ao l.length cap) l) := Lib.hid fun w1 Y hY hb => by
      have b1 : Below n0 w w1 := by rw [← hzz]; exact b0.trans (hb.mono b0.size)
      have hn1 : n0 < w1.heap.size := Nat.lt_of_lt_of_le (block_lt' x0) hb.size
      have own := World.ownsRow_lit (base := n0) (e := 59) (size := 9) w1 #[.int .u64 0, .int .u64 0, .int .u64 0, .int .u64 0, .int .u64 0, .int .u64 0, .int .u64 0, .int .u64 0, .int .u64 0] 1 (Nat.le_of_lt hn1) (by unfold maxLen; omega) rfl
      rw [hY] at own
      have bE : Below w1.heap.size w1 ((w1.alloc (.cells #[.int .u64 0, .int .u64 0, .int .u64 0, .int .u64 0, .int .u64 0, .int .u64 0, .int .u64 0, .int .u64 0, .int .u64 0] 59)).alloc (.cells #[.slice (some ⟨Y, 0, none⟩) 1 1, .int .u64 0, .int .u64 0, .int .u64 0, .int .u64 0, .int .u64 0] 62)) := below_trans (below_new w1 _) (below_new _ _)
      have x1 : w1.heap[n0]? = some (.cells #[.int .i64 k, .int .i64 mn, .int .i64 mx, .int .u64 s0, .int .u64 s1, .int .u64 s2, .int .u64 s3, .slice ao l.length cap] 26 (0, 0)) := (hb.block _ (block_lt' x0)).trans x0
      refine ⟨⟨by omega, .slice (some ⟨Y, 0, none⟩) 1 1, ?_, ?_⟩, b1.trans (bE.mono (Nat.le_of_lt hn1)), by omega, (bE.block _ (block_lt' x1)).trans x1, ?_⟩
      · have e := heap_alloc_new (w1.alloc (.cells #[.int .u64 0, .int .u64 0, .int .u64 0, .int .u64 0, .int .u64 0, .int .u64 0, .int .u64 0, .int .u64 0, .int .u64 0] 59)) (.cells #[.slice (some ⟨Y, 0, none⟩) 1 1, .int .u64 0, .int .u64 0, .int .u64 0, .int .u64 0, .int .u64 0] 62)
        rw [show (w1.alloc (.cells #[.int .u64 0, .int .u64 0, .int .u64 0, .int .u64 0, .int .u64 0, .int .u64 0, .int .u64 0, .int .u64 0, .int .u64 0] 59)).heap.size = Y + 1 by simp [hY]] at e
        dsimp only
        simp only [pw_zero]
        exact e
      · have e : stasV [⟨0, 0, 0, 0, 0⟩] = (#[.int .u64 0, .int .u64 0, .int .u64 0, .int .u64 0, .int .u64 0, .int .u64 0, .int .u64 0, .int .u64 0, .int .u64 0] : Array Value).toList := by simp [stasV, staV, pw_zero]
        dsimp only
        rw [e]
        exact own.alloc _
      · exact hl0.kept (Nat.le_trans b1.size bE.size) (fun b hbn _ => by rw [bE.block b (by omega), b1.block b hbn]) (fun b hb _ => hb)
    have KLL : Hid (∀ w1 Y, w1.heap.size = Y → Below W0.heap.size W0 w1 → Calls Try.prog 30 #[.pointer (some ⟨Y + 1, 0, none⟩), .agg #[.int .i64 k, .int .i64 mn, .int .i64 mx, .int .u64 s0, .int .u64 s1, .int .u64 s2, .int .u64 s3, .slice ao l.length cap], .int .i64 0] ((w1.alloc (.cells #[.int .u64 0, .int .u64 0, .int .u64 0, .int .u64 0, .int .u64 0, .int .u64 0, .int .u64 0, .int .u64 0, .int .u64 0] 59)).alloc (.cells #[.slice (some ⟨Y, 0, none⟩) 1 1, .int .u64 0, .int .u64 0, .int .u64 0, .int .u64 0, .int .u64 0] 62)) fun e w' => e = .returned (.int .i64 (r.1 : Nat)) ∧ IsM n0 (Y + 1) ⟨r.2, 0⟩ w' ∧ Oth n0 (Y + 1) ((w1.alloc (.cells #[.int .u64 0, .int .u64 0, .int .u64 0, .int .u64 0, .int .u64 0, .int .u64 0, .int .u64 0, .int .u64 0, .int .u64 0] 59)).alloc (.cells #[.slice (some ⟨Y, 0, none⟩) 1 1, .int .u64 0, .int .u64 0, .int .u64 0, .int .u64 0, .int .u64 0] 62)) w') := Lib.hid fun w1 Y hY hb => by
      obtain ⟨a, _, _, _, b⟩ := ST.out w1 Y hY hb
      exact kl (Y + 1) 0 _ a b
    have HM := Lib.hid (And.intro m1 (And.intro m2 (And.intro m3 (And.intro OK mk))))
    have WI := Lib.hid (pwith0 r.1 (by omega))
    unfold plc at WI
    have HB0 := Lib.hid b0
    clear hl hl0 KC KM MF MK OK b0 x0 KC0 KL HSZ hX hW0 hr hck hok hn0 m1 m2 m3 mk kl hs0 hs1
    go_enter Try.func11, Try.ntmps11
    go_wp2_with fail
    rw [HW0.out]
    go_wp2_with (first
      | (go_at_call 28; (with_reducible refine HKC.out.mono ?_); rintro e w1 ⟨rfl, hb1⟩; have HB1 := Lib.hid hb1; clear hb1; obtain ⟨Y, hY⟩ : ∃ Y, w1.heap.size = Y := ⟨_, rfl⟩; have S1 := Lib.hid (ST.out w1 Y hY HB1.out); have K1 := Lib.hid (KLL.out w1 Y hY HB1.out); obtain ⟨e0, e1, e2, e3, e4, e5, e6, e7⟩ := cells8_at S1.out.2.2.2.1)
      | (go_at_call 30; (with_reducible refine K1.out.mono ?_); rintro e w2 ⟨rfl, hi, ho⟩; have HI := Lib.hid hi; have HO := Lib.hid ho; clear hi ho)
      | (go_at_call 29; (with_reducible refine (WI.out _).mono ?_); rintro e w3 ⟨rfl, hb3⟩; have B3 := Lib.hid hb3; clear hb3; have I3 := Lib.hid (HI.out.of_below B3.out); have HP3 := I3.out.setBeg (bitN r.1); have HP4 := Lib.hid HP3; clear HP3; obtain ⟨b1, b2, b3, b4, b5⟩ := I3.out.begs; have bf := (show ∀ o, w3.frozen? ⟨Y + 1, o, none⟩ = false from fun o => by obtain ⟨_, v, hc, _⟩ := I3.out; exact free_at hc); have FA : Hid (Calls Try.prog 31 #[.pointer (some ⟨Y + 1, 0, none⟩)] (((((w3.setCell ⟨Y + 1, 1, none⟩ (.int .u64 (pw (bitN r.1) 0 : Nat))).setCell ⟨Y + 1, 2, none⟩ (.int .u64 (pw (bitN r.1) 1 : Nat))).setCell ⟨Y + 1, 3, none⟩ (.int .u64 (pw (bitN r.1) 2 : Nat))).setCell ⟨Y + 1, 4, none⟩ (.int .u64 (pw (bitN r.1) 3 : Nat))).setCell ⟨Y + 1, 5, none⟩ (.int .u64 (pw (bitN r.1) 4 : Nat))) fun e w' => e = .returned (.tuple #[]) ∧ IsM n0 (Y + 1) ⟨followAll r.2.length 0 r.2, fol (followAll r.2.length 0 r.2) (bitN r.1)⟩ w' ∧ Oth n0 (Y + 1) (((((w3.setCell ⟨Y + 1, 1, none⟩ (.int .u64 (pw (bitN r.1) 0 : Nat))).setCell ⟨Y + 1, 2, none⟩ (.int .u64 (pw (bitN r.1) 1 : Nat))).setCell ⟨Y + 1, 3, none⟩ (.int .u64 (pw (bitN r.1) 2 : Nat))).setCell ⟨Y + 1, 4, none⟩ (.int .u64 (pw (bitN r.1) 3 : Nat))).setCell ⟨Y + 1, 5, none⟩ (.int .u64 (pw (bitN r.1) 4 : Nat))) w') := Lib.hid (follow_any n0 (Y + 1) ⟨r.2, bitN r.1⟩ (put5o w3 (Y + 1) 1 (bitN r.1)) HP4.out.1 HM.out.2.2.2.1 HM.out.1 HM.out.2.2.1 (Nat.lt_of_le_of_lt (Nat.zero_le _) HM.out.2.1) (bitN_top (by have := HM.out; omega))))
      | (go_at_call 31; (with_reducible refine FA.out.mono ?_); rintro e w4 ⟨rfl, hi, ho⟩; have HI4 := Lib.hid hi; have HO4 := Lib.hid ho; clear hi ho))
    refine bodyPost_ret (v := .tuple #[.pointer (some ⟨Y + 1, 0, none⟩), .int .i64 0]) (by simp [results, Try.results11, go_sem]) rfl ⟨?_, .inr ⟨by trivial, Y + 1, rfl, HI4.out, HM.out.2.2.2.2⟩⟩
    have hp4 := HP4.out.2.below
    exact (((S1.out.2.1.trans HO.out.below).trans (B3.out.mono (by have := HI.out.lt; have := HI.out.base; omega))).trans hp4).trans HO4.out.below
end Go.Proofs.Ytdmajbdgjjmlkaa
