/- Memories made, their frames told, laid into, cleared, and cloned. No conditions. -/
import Derived.Test.YtedhefidfepclaaArr
namespace Go.Proofs.Ytedhefidfepclaa
open Go.RowKit Go.Maps
set_option linter.unusedVariables false

def frameB (B : Bts) (f : Nat) : Bts := (B.drop (256 * f)).take 256
def isF (F : Nat) (f : Int) : Prop := 0 ≤ f ∧ f < F
instance (F : Nat) (f : Int) : Decidable (isF F f) := by unfold isF; infer_instance
set_option maxRecDepth 20000 in
set_option maxHeartbeats 1000000 in
theorem frame_any (p g cap F : Nat) (B : Bts) (w : World) (h : IsM w p g cap F B) (f : Int) :
    Calls Try.prog 49 #[.pointer (some ⟨p, 0, none⟩), .int .i64 f] w fun e w' => e = .returned (if isF F f then .tuple #[.string (ofL (frameB B f.toNat)), .int .i64 0] else .tuple #[.string ⟨#[]⟩, .int .i64 83]) ∧ w = w' := by
  have k := has_any p g cap F B w h f
  by_cases a : isF F f
  · rw [if_pos a]
    unfold isF at a
    obtain ⟨i, rfl⟩ : ∃ i : Nat, f = (i : Int) := ⟨f.toNat, by omega⟩
    have ea : decide (0 ≤ (i : Int) ∧ (i : Int) < F) = true := by simp; omega
    rw [ea] at k
    have c0 := h.cell
    have hcv := h.row.string (w' := w) (i * 256) 256 256 (by rw [h.len]; omega)
    have ef : ((B.drop (i * 256)).take 256) = frameB B i := by rw [Nat.mul_comm]; rfl
    rw [ef] at hcv
    clear ef
    have hiF : i < F := by omega
    clear h ea
    go_enter Try.func49, Try.ntmps49
    go_wp2_with (go_at_call 60; refine k.mono ?_; rintro e w' ⟨rfl, rfl⟩)
    go_ret2
    exact ⟨rfl, rfl⟩
  · rw [if_neg a]
    have ea : decide (0 ≤ f ∧ f < F) = false := by unfold isF at a; simp; omega
    rw [ea] at k
    clear h ea
    go_enter Try.func49, Try.ntmps49
    go_wp2_with (go_at_call 60; refine k.mono ?_; rintro e w' ⟨rfl, rfl⟩)
    go_ret2
    exact ⟨rfl, rfl⟩
def layE (F : Nat) (f a : Int) (n : Nat) : Int := if isF F f then (if a < 0 ∨ 256 < a + n then 80 else 0) else 83
def layB (F : Nat) (B : Bts) (f a : Int) (s : Bts) : Bts := if layE F f a s.length = 0 then lay B (256 * f.toNat + a.toNat) s else B
set_option maxRecDepth 20000 in
set_option maxHeartbeats 1000000 in
theorem lay_any (p g cap F : Nat) (B : Bts) (w : World) (h : IsM w p g cap F B) (f a : Int) (s : ByteArray) (hs : s.size < 140737488355328) :
    Calls Try.prog 36 #[.pointer (some ⟨p, 0, none⟩), .int .i64 f, .int .i64 a, .string s] w fun e w' => e = .returned (.int .i64 (layE F f a s.size)) ∧ IsM w' p g cap F (layB F B f a s.data.toList) ∧ Ch (onB g) w w' := by
  have k := has_any p g cap F B w h f
  unfold layB
  rw [baList]
  by_cases c : isF F f
  · have c' := c
    unfold isF at c
    obtain ⟨i, rfl⟩ : ∃ i : Nat, f = (i : Int) := ⟨f.toNat, by omega⟩
    have ea : decide (0 ≤ (i : Int) ∧ (i : Int) < F) = true := by simp; omega
    rw [ea] at k
    have c0 := h.cell
    have hiF : i < F := by omega
    have ew : IntKind.i64.wrap (256 - (s.size : Int)) = 256 - (s.size : Int) := wrap_in (by omega)
    have H := Lib.hid h
    by_cases b : a < 0
    · have e0 : layE F i a s.size = 80 := by unfold layE; rw [if_pos c', if_pos (.inl b)]
      rw [e0, if_neg (by decide)]
      clear h ea e0 ew
      go_enter Try.func36, Try.ntmps36
      go_wp2_with (go_at_call 60; refine k.mono ?_; rintro e w' ⟨rfl, rfl⟩)
      go_ret
      exact ⟨rfl, H.out, Ch.refl _ _⟩
    · by_cases d : 256 < a + s.size
      · have e0 : layE F i a s.size = 80 := by unfold layE; rw [if_pos c', if_pos (.inr d)]
        rw [e0, if_neg (by decide)]
        clear h ea e0
        go_enter Try.func36, Try.ntmps36
        go_wp2_with (go_at_call 60; refine k.mono ?_; rintro e w' ⟨rfl, rfl⟩)
        go_ret
        exact ⟨rfl, H.out, Ch.refl _ _⟩
      · have e0 : layE F i a s.size = 0 := by unfold layE; rw [if_pos c', if_neg (by omega)]
        rw [e0, if_pos rfl]
        obtain ⟨o, rfl⟩ : ∃ o : Nat, a = (o : Int) := ⟨a.toNat, by omega⟩
        have hsl := slice_arr1 g (i * 256) o (by omega) w
        have hlen := h.len
        obtain ⟨cs, hrun, hrow⟩ := h.row.copy (cutAt (i * 256) o) (256 - o) (256 - o) s 3 (by unfold cutAt; split <;> omega)
        obtain ⟨A, hA⟩ : ∃ A, A = cutAt (i * 256) o := ⟨_, rfl⟩
        obtain ⟨L, hL⟩ : ∃ L, L = 256 - o := ⟨_, rfl⟩
        obtain ⟨M, hM⟩ : ∃ M, M = min s.size (256 - o) := ⟨_, rfl⟩
        have HR := Lib.hid (And.intro hrow (And.intro hlen (And.intro d hA)))
        rw [← hM, ← hA, ← hL] at hrun
        rw [← hA, ← hL] at hsl
        clear h ea e0 hrow hlen hA hL hM
        go_enter Try.func36, Try.ntmps36
        go_wp2_with (go_at_call 60; refine k.mono ?_; rintro e w' ⟨rfl, rfl⟩)
        go_ret
        have e1 : s.data.toList.take (256 - o) = s.data.toList := List.take_of_length_le (by rw [baList]; omega)
        have e2 : lay B (cutAt (i * 256) o) s.data.toList = lay B (256 * (i : Int).toNat + (o : Int).toNat) s.data.toList := by
          rw [Int.toNat_natCast, Int.toNat_natCast]
          unfold cutAt
          by_cases z : o = 256
          · have e3 : s.data.toList = [] := List.length_eq_zero_iff.1 (by rw [baList]; omega)
            rw [e3]; simp [lay]
          · rw [if_neg z, Nat.mul_comm]
        have hr := HR.out.1
        rw [e1, e2] at hr
        refine ⟨rfl, H.out.setRow hr ?_, Ch.setRow (F := onB g) (Ch.refl _ _) rfl _⟩
        rw [lay_len (by rw [baList, Int.toNat_natCast, Int.toNat_natCast, HR.out.2.1]; omega)]
        exact HR.out.2.1
  · have e0 : layE F f a s.size = 83 := by unfold layE; rw [if_neg c]
    have ea : decide (0 ≤ f ∧ f < F) = false := by unfold isF at c; simp; omega
    rw [ea] at k
    rw [e0, if_neg (by decide)]
    have H := Lib.hid h
    clear h ea e0
    go_enter Try.func36, Try.ntmps36
    go_wp2_with (go_at_call 60; refine k.mono ?_; rintro e w' ⟨rfl, rfl⟩)
    go_ret
    exact ⟨rfl, H.out, Ch.refl _ _⟩
def clrB (F : Nat) (B : Bts) (f : Int) : Bts := if isF F f then lay B (256 * f.toNat) (nb 256) else B
set_option maxRecDepth 20000 in
set_option maxHeartbeats 1000000 in
theorem clear_any (p g cap F : Nat) (B : Bts) (w : World) (h : IsM w p g cap F B) (f : Int) :
    Calls Try.prog 35 #[.pointer (some ⟨p, 0, none⟩), .int .i64 f] w fun e w' => e = .returned (.int .i64 (if isF F f then 0 else 83)) ∧ IsM w' p g cap F (clrB F B f) ∧ Ch (onB g) w w' := by
  have k := has_any p g cap F B w h f
  unfold clrB
  by_cases c : isF F f
  · rw [if_pos c, if_pos c]
    unfold isF at c
    obtain ⟨i, rfl⟩ : ∃ i : Nat, f = (i : Int) := ⟨f.toNat, by omega⟩
    have ea : decide (0 ≤ (i : Int) ∧ (i : Int) < F) = true := by simp; omega
    rw [ea] at k
    have c0 := h.cell
    have hiF : i < F := by omega
    have H := Lib.hid h
    have hlen := h.len
    have hz := zero114 w
    obtain ⟨cs, hst, hrow⟩ := h.row.clear (i * 256) (by omega)
    have HR := Lib.hid (And.intro hrow hlen)
    clear h ea hrow hlen
    have hzs := zeros_size
    generalize zeros = Z at *
    go_enter Try.func35, Try.ntmps35
    go_wp2_with (go_at_call 60; refine k.mono ?_; rintro e w' ⟨rfl, rfl⟩)
    go_ret
    refine ⟨rfl, H.out.setRow ?_ ?_, Ch.setRow (F := onB g) (Ch.refl _ _) rfl _⟩
    · rw [show 256 * (i : Int).toNat = i * 256 by rw [Int.toNat_natCast, Nat.mul_comm]]; exact HR.out.1
    · rw [lay_len (by rw [nb_len, Int.toNat_natCast, HR.out.2]; omega)]; exact HR.out.2
  · rw [if_neg c, if_neg c]
    have ea : decide (0 ≤ f ∧ f < F) = false := by unfold isF at c; simp; omega
    rw [ea] at k
    have H := Lib.hid h
    clear h ea
    go_enter Try.func35, Try.ntmps35
    go_wp2_with (go_at_call 60; refine k.mono ?_; rintro e w' ⟨rfl, rfl⟩)
    go_ret
    exact ⟨rfl, H.out, Ch.refl _ _⟩
end Go.Proofs.Ytedhefidfepclaa
