/- Join, meet, top, bottom, what lies above and below, how many there are: what the calls return; nothing that was there turns. Conditions: there are at most eight levels. -/
import Derived.Test.YtbkpfiagoinoiaaLea
namespace Go.Proofs.Ytbkpfiagoinoiaa
open Go.RowKit
set_option linter.unusedVariables false
attribute [local go_sem ↓] load47_pre store47_pre load49_pre store49_pre eql47_pre
attribute [local go_sem] load47_run store47_run load49_run store49_run rowOr_some putOr_true heap_drew eql47_run tellOr_true

theorem own_weak {w : World} {base base' : Nat} {e : TypeId} {size : Nat} {v : Value} {n : Nat} {xs : List Value} (h : w.ownsRow base e size v n xs) (hb : base' ≤ base) : w.ownsRow base' e size v n xs := by
  obtain ⟨h1, h2⟩ := h
  refine ⟨h1, ?_⟩
  rcases h2 with h2 | ⟨g, cap, cur, q1, q2, q3⟩
  · exact .inl h2
  · exact .inr ⟨g, cap, cur, q1, Nat.le_trans hb q2, q3⟩
theorem own_below {w w' : World} {base B : Nat} {e : TypeId} {size : Nat} {v : Value} {n : Nat} {xs : List Value} (h : w.ownsRow base e size v n xs) (hb : Below B w w') (hB : w.heap.size ≤ B) : w'.ownsRow base e size v n xs := by
  obtain ⟨h1, h2⟩ := h
  refine ⟨h1, ?_⟩
  rcases h2 with h2 | ⟨g, cap, cur, q1, q2, q3, q4⟩
  · exact .inl h2
  · exact .inr ⟨g, cap, cur, q1, q2, heap_below q3 hb (Nat.lt_of_lt_of_le (block_lt q3) hB), q4⟩

set_option maxHeartbeats 400000 in
theorem levels_any (b n : Nat) (G : Flw) (w : World) (h : IsL w b n G) :
    Calls Try.prog 25 #[.pointer (some ⟨b, 0, none⟩)] w fun e w' => e = .returned (.int .i64 (n : Int)) ∧ w = w' := by
  have hc := h.count
  clear h
  go_enter Try.func25, Try.ntmps25
  go_wp2
  go_ret
  exact ⟨rfl, rfl⟩
set_option maxHeartbeats 400000 in
theorem join_any (b n : Nat) (G : Flw) (x y : Int) (w : World) (hn : n ≤ 8) (h : IsL w b n G) :
    Calls Try.prog 16 #[.pointer (some ⟨b, 0, none⟩), .int .i64 x, .int .i64 y] w fun e w' => e = .returned (.int .i64 (lstI G n x y)) ∧ Below w.heap.size w w' := by
  have hr := h.all
  have A := fun x y => least_any b n G G x y w hn h
  obtain ⟨C, hC⟩ : ∃ C, C = cellsF G := ⟨_, rfl⟩
  rw [← hC] at hr A
  generalize lstI G n = f at *
  have A1 := Lib.hid (A x y)
  clear A h hC
  go_enter Try.func16, Try.ntmps16
  go_wp2_with (go_at_call 37; (with_reducible refine (A1.out).mono ?_); rintro e w' ⟨rfl, c1⟩)
  go_ret
  exact ⟨rfl, c1⟩
set_option maxHeartbeats 400000 in
theorem meet_any (b n : Nat) (G : Flw) (x y : Int) (w : World) (hn : n ≤ 8) (h : IsL w b n G) :
    Calls Try.prog 18 #[.pointer (some ⟨b, 0, none⟩), .int .i64 x, .int .i64 y] w fun e w' => e = .returned (.int .i64 (lstI (turn G) n x y)) ∧ Below w.heap.size w w' := by
  have hr := h.all
  have A : ∀ w1, Below w.heap.size w w1 → Calls Try.prog 37 #[.pointer (some ⟨b, 0, none⟩), .agg (cellsF (turn G)), .int .i64 x, .int .i64 y] w1 fun e w' => e = .returned (.int .i64 (lstI (turn G) n x y)) ∧ Below w1.heap.size w1 w' :=
    fun w1 q => least_any b n G (turn G) x y w1 hn (h.below q h.lt)
  have T := fun w => turned_any G w
  obtain ⟨C, hC⟩ : ∃ C, C = cellsF G := ⟨_, rfl⟩
  obtain ⟨D, hD⟩ : ∃ D, D = cellsF (turn G) := ⟨_, rfl⟩
  rw [← hC] at hr T
  rw [← hD] at A T
  generalize lstI (turn G) n = f at *
  have A1 := Lib.hid A
  have T1 := Lib.hid T
  clear A T h hC hD
  go_enter Try.func18, Try.ntmps18
  go_wp2_with fail
  (with_reducible refine (T1.out _).mono ?_)
  rintro e w1 ⟨rfl, c1⟩
  clear hr
  go_wp2_with fail
  (with_reducible refine (A1.out _ c1).mono ?_)
  rintro e w2 ⟨rfl, c2⟩
  go_wp2_with fail
  go_ret
  exact ⟨rfl, below_trans c1 c2⟩

def topI (f : Int → Int → Int) : Nat → Int
  | 0 => 0
  | k + 1 => f (topI f k) k
set_option maxHeartbeats 1000000 in
theorem top_any (b n : Nat) (G : Flw) (w : World) (hn : n ≤ 8) (h : IsL w b n G) :
    Calls Try.prog 26 #[.pointer (some ⟨b, 0, none⟩)] w fun e w' => e = .returned (.int .i64 (topI (lstI G n) n)) ∧ Below w.heap.size w w' := by
  have hc := h.count
  have hlt := h.lt
  have A : Hid (∀ w1 x y, Below w.heap.size w w1 → Calls Try.prog 16 #[.pointer (some ⟨b, 0, none⟩), .int .i64 x, .int .i64 y] w1 fun e w' => e = .returned (.int .i64 (lstI G n x y)) ∧ Below w1.heap.size w1 w') :=
    fun w1 x y q => join_any b n G x y w1 hn (h.below q hlt)
  generalize lstI G n = f at *
  have H := Lib.hid h
  clear h
  go_enter Try.func26, Try.ntmps26
  go_wp2
  go_loopw [3, 4, 9] (fun t _ i wr => ∃ k : Nat, k ≤ n ∧ i = .int .i64 k ∧ t = .int .i64 (topI f k) ∧ Below w.heap.size w wr) (fun _ _ i _ => n - (intOf i).toNat)
  case atStart => exact ⟨0, by omega, rfl, rfl, Below.refl _ _⟩
  case round =>
    obtain ⟨k, hk, rfl, rfl, hb⟩ := hrel
    clear hc
    by_cases hkn : k < n
    · have hki : (k : Int) < (n : Int) := by omega
      have e : topI f (k + 1) = f (topI f k) k := rfl
      have HE := Lib.hid e
      clear e
      generalize topI f k = t at *
      go_wp2_with fail
      (with_reducible refine (A.out _ _ _ hb).mono ?_)
      rintro e w2 ⟨rfl, c2⟩
      go_wp2_with fail
      first
        | exact ⟨⟨k + 1, by omega, by go_num, by rw [HE.out], below_trans hb c2⟩, by simp [intOf]; omega⟩
        | (refine ⟨?_, by simp [intOf]; omega⟩; repeat apply Exists.intro; exact ⟨⟨k + 1, by omega, by go_num, rfl, below_trans hb c2⟩, rfl⟩)
    · have hkn : k = n := by omega
      subst hkn
      go_wp2
      go_ret
      exact ⟨rfl, hb⟩
set_option maxHeartbeats 1000000 in
theorem bottom_any (b n : Nat) (G : Flw) (w : World) (hn : n ≤ 8) (h : IsL w b n G) :
    Calls Try.prog 28 #[.pointer (some ⟨b, 0, none⟩)] w fun e w' => e = .returned (.int .i64 (topI (lstI (turn G) n) n)) ∧ Below w.heap.size w w' := by
  have hc := h.count
  have hlt := h.lt
  have A : Hid (∀ w1 x y, Below w.heap.size w w1 → Calls Try.prog 18 #[.pointer (some ⟨b, 0, none⟩), .int .i64 x, .int .i64 y] w1 fun e w' => e = .returned (.int .i64 (lstI (turn G) n x y)) ∧ Below w1.heap.size w1 w') :=
    fun w1 x y q => meet_any b n G x y w1 hn (h.below q hlt)
  generalize lstI (turn G) n = f at *
  have H := Lib.hid h
  clear h
  go_enter Try.func28, Try.ntmps28
  go_wp2
  go_loopw [3, 4, 9] (fun t _ i wr => ∃ k : Nat, k ≤ n ∧ i = .int .i64 k ∧ t = .int .i64 (topI f k) ∧ Below w.heap.size w wr) (fun _ _ i _ => n - (intOf i).toNat)
  case atStart => exact ⟨0, by omega, rfl, rfl, Below.refl _ _⟩
  case round =>
    obtain ⟨k, hk, rfl, rfl, hb⟩ := hrel
    clear hc
    by_cases hkn : k < n
    · have hki : (k : Int) < (n : Int) := by omega
      have e : topI f (k + 1) = f (topI f k) k := rfl
      have HE := Lib.hid e
      clear e
      generalize topI f k = t at *
      go_wp2_with fail
      (with_reducible refine (A.out _ _ _ hb).mono ?_)
      rintro e w2 ⟨rfl, c2⟩
      go_wp2_with fail
      first
        | exact ⟨⟨k + 1, by omega, by go_num, by rw [HE.out], below_trans hb c2⟩, by simp [intOf]; omega⟩
        | (refine ⟨?_, by simp [intOf]; omega⟩; repeat apply Exists.intro; exact ⟨⟨k + 1, by omega, by go_num, rfl, below_trans hb c2⟩, rfl⟩)
    · have hkn : k = n := by omega
      subst hkn
      go_wp2
      go_ret
      exact ⟨rfl, hb⟩
theorem idx49 (F : Flw) (k : Nat) (hk : k < 8) (w : World) : (Instr.index 49 (.agg (cellsF F)) (.int .i64 (k : Int))).run Try.prog w = .ok (.agg (cellsR (F k))) w := by
  simp only [Instr.index, asIntOf, Sem.run_bind, Sem.run_pure, Result.andThen_ok, run_underlying Try.underlying49]
  rw [if_pos (by omega)]
  have hs : (Go.sizeOf 47).run Try.prog w = .ok 8 w := by simp
  simp only [Sem.run_bind, hs, Result.andThen_ok, Int.toNat_natCast]
  exact part47 F k hk w
/-- the levels of a row, if it is one's -/
def lvlL (n : Nat) (G : Flw) (x : Int) : List Nat := if hasB n x = true then upL (G x.toNat) 8 else []
set_option maxHeartbeats 1000000 in
theorem above_any (b n : Nat) (G : Flw) (x : Int) (w : World) (hn : n ≤ 8) (h : IsL w b n G) :
    Calls Try.prog 20 #[.pointer (some ⟨b, 0, none⟩), .int .i64 x] w fun e w' => ∃ v, e = .returned v ∧ w'.ownsRow w.heap.size 3 1 v (lvlL n G x).length ((lvlL n G x).map cellI) ∧ Below w.heap.size w w' := by
  have A := Lib.hid (has_any b n G x w h)
  cases h1 : hasB n x with
  | false =>
    have e : lvlL n G x = [] := by unfold lvlL; rw [h1]; rfl
    rw [e]
    clear h e
    go_enter Try.func20, Try.ntmps20
    go_wp2_with (go_at_call 32; (with_reducible refine (A.out).mono ?_); rintro e w' ⟨rfl, rfl⟩)
    go_ret
    exact ⟨_, rfl, World.ownsRow_nil _ _ _ _, Below.refl _ _⟩
  | true =>
    obtain ⟨a, rfl, ha⟩ := hasB_nat h1
    have e : lvlL n G a = upL (G a) 8 := by unfold lvlL; rw [h1]; rfl
    rw [e]
    have hi1 := index49 b 1 a (by omega)
    have hr : rowAt w.heap b (1 + a * 8) 8 = some (cellsR (G a)) := by
      rw [rowAt_of h (by rw [latC_size]; omega)]
      congr 1
      rw [← cellsF_row G a (by omega)]
      apply Array.ext_getElem?
      intro i
      rw [Array.getElem?_extract, Array.getElem?_extract, latC_size, cellsF_size]
      by_cases q : i < 8
      · rw [if_pos (by omega), if_pos (by omega), show 1 + a * 8 + i = (a * 8 + i) + 1 by omega, latC_succ]
      · rw [if_neg (by omega), if_neg (by omega)]
    have L := fun w => list_any (G a) w
    obtain ⟨C, hC⟩ : ∃ C, C = cellsR (G a) := ⟨_, rfl⟩
    rw [← hC] at hr L
    generalize upL (G a) 8 = l at *
    have LL := Lib.hid L
    clear h e hC L
    go_enter Try.func20, Try.ntmps20
    go_wp2_with (first
      | (go_at_call 32; (with_reducible refine (A.out).mono ?_); rintro e w' ⟨rfl, rfl⟩)
      | (go_at_call 39; (with_reducible refine (LL.out _).mono ?_); rintro e w2 ⟨v, rfl, own, c2⟩))
    go_ret
    exact ⟨v, rfl, own_weak own (Nat.le_succ _), c2⟩
set_option maxHeartbeats 1000000 in
theorem under_any (b n : Nat) (G : Flw) (x : Int) (w : World) (hn : n ≤ 8) (h : IsL w b n G) :
    Calls Try.prog 21 #[.pointer (some ⟨b, 0, none⟩), .int .i64 x] w fun e w' => ∃ v, e = .returned v ∧ w'.ownsRow w.heap.size 3 1 v (lvlL n (turn G) x).length ((lvlL n (turn G) x).map cellI) ∧ Below w.heap.size w w' := by
  have A := Lib.hid (has_any b n G x w h)
  cases h1 : hasB n x with
  | false =>
    have e : lvlL n (turn G) x = [] := by unfold lvlL; rw [h1]; rfl
    rw [e]
    clear h e
    go_enter Try.func21, Try.ntmps21
    go_wp2_with (go_at_call 32; (with_reducible refine (A.out).mono ?_); rintro e w' ⟨rfl, rfl⟩)
    go_ret
    exact ⟨_, rfl, World.ownsRow_nil _ _ _ _, Below.refl _ _⟩
  | true =>
    obtain ⟨a, rfl, ha⟩ := hasB_nat h1
    have e : lvlL n (turn G) a = upL (turn G a) 8 := by unfold lvlL; rw [h1]; rfl
    rw [e]
    have hr := h.all
    have T := fun w => turned_any G w
    have L := fun w => list_any (turn G a) w
    have hix := fun w => idx49 (turn G) a (by omega) w
    obtain ⟨C, hC⟩ : ∃ C, C = cellsF G := ⟨_, rfl⟩
    obtain ⟨D, hD⟩ : ∃ D, D = cellsF (turn G) := ⟨_, rfl⟩
    obtain ⟨E, hE⟩ : ∃ E, E = cellsR (turn G a) := ⟨_, rfl⟩
    rw [← hC] at hr T
    rw [← hD] at T hix
    rw [← hE] at hix L
    generalize upL (turn G a) 8 = l at *
    have LL := Lib.hid L
    have TT := Lib.hid T
    clear h e hC hD hE L T
    go_enter Try.func21, Try.ntmps21
    go_wp2_with (first
      | (go_at_call 32; (with_reducible refine (A.out).mono ?_); rintro e w' ⟨rfl, rfl⟩)
      | (go_at_call 38; (with_reducible refine (TT.out _).mono ?_); rintro e w1 ⟨rfl, c1⟩)
      | (go_at_call 39; (with_reducible refine (LL.out _).mono ?_); rintro e w2 ⟨v, rfl, own, c2⟩))
    go_ret
    exact ⟨v, rfl, own_weak own (Nat.le_succ_of_le c1.size), below_trans c1 c2⟩
end Go.Proofs.Ytbkpfiagoinoiaa
