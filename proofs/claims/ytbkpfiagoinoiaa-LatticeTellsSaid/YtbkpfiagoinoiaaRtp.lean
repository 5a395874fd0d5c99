/- The other text's lattice: the top, the bottom: what the calls return, among whatever stays. Conditions: at most eight levels. -/
import Derived.Test.YtbkpfiagoinoiaaRab
namespace Go.Proofs.Ytbkpfiagoinoiaa
open Go.RowKit
set_option linter.unusedVariables false

def topF (n : Nat) (f : Nat → Nat) : Int := match (List.range n).find? (fun a => decide (f a = n)) with | some c => (c : Int) | none => -1
theorem topF_first {n : Nat} {f : Nat → Nat} {c : Nat} (hc : c < n) (h : f c = n) (hb : ∀ d, d < c → f d ≠ n) : topF n f = (c : Int) := by
  have : (List.range n).find? (fun a => decide (f a = n)) = some c := by
    rw [List.find?_range_eq_some]
    exact ⟨by simpa using h, by simpa using hc, fun d hd => by simpa using hb d hd⟩
  unfold topF; rw [this]
theorem topF_none {n : Nat} {f : Nat → Nat} (hb : ∀ d, d < n → f d ≠ n) : topF n f = -1 := by
  have : (List.range n).find? (fun a => decide (f a = n)) = none := by
    rw [List.find?_eq_none]
    intro c hc
    simpa using hb c (by simpa using hc)
  unfold topF; rw [this]
section
variable {I : World → Prop} {L R cap : Nat} {B : Nat → Nat} {n : Nat} {F : Flw} (hk : Stays I) (hL : ∀ w1, I w1 → IsR w1 L R cap B n F) (n8 : n ≤ 8)
include hk hL n8
set_option maxHeartbeats 1000000 in
theorem inv_rtop (w : World) (h : I w) :
    Calls Try.prog 27 #[.pointer (some ⟨L, 0, none⟩)] w fun e w' => e = .returned (.int .i64 (topF n fun a => (rabL n (turn F) a n).length)) ∧ Below w.heap.size w w' := by
  obtain ⟨D, hD⟩ : ∃ D, D = w.heap.size := ⟨_, rfl⟩
  have KI : Hid (∀ w1, Below D w w1 → w1.cell? ⟨L, 0, none⟩ = some (.int .i64 (n : Int))) := fun w1 hb => (hL w1 (hk w w1 h (by rw [← hD]; exact hb))).count
  have KF : Hid (∀ w1, Below D w w1 → ∀ k : Nat, Calls Try.prog 24 #[.pointer (some ⟨L, 0, none⟩), .int .i64 (k : Int)] w1 fun e w' => ∃ ao cap, e = .returned (.slice ao (rabL n (turn F) k n).length cap) ∧ Below D w w' ∧ w'.cell? ⟨L, 0, none⟩ = some (.int .i64 (n : Int))) := fun w1 hb k =>
    (inv_rbelow hk hL n8 k w1 (hk w w1 h (by rw [← hD]; exact hb))).mono fun e w' ⟨v, h1, h2, h3⟩ => by
      obtain ⟨ao, cap, rfl, _⟩ := own_ints h2
      have b2 : Below D w w' := hb.trans (h3.mono (by have := hb.size; omega))
      exact ⟨ao, cap, h1, b2, KI.out _ b2⟩
  rw [← hD]
  have b0 : Below D w w := by rw [hD]; exact Below.refl _ w
  have c0 := KI.out _ b0
  have hlen : ∀ k, (rabL n (turn F) (k : Int) n).length ≤ n := fun k => rabL_len n (turn F) k n
  clear hk hL h hD
  generalize hf : (fun a : Nat => (rabL n (turn F) (a : Int) n).length) = f at *
  have KG : Hid (∀ w1, Below D w w1 → ∀ k : Nat, Calls Try.prog 24 #[.pointer (some ⟨L, 0, none⟩), .int .i64 (k : Int)] w1 fun e w' => ∃ ao cap, e = .returned (.slice ao (f k) cap) ∧ Below D w w' ∧ w'.cell? ⟨L, 0, none⟩ = some (.int .i64 (n : Int))) := by
    rw [← hf]; exact KF
  have hlen2 : Hid (∀ k, f k ≤ n) := by rw [← hf]; exact fun k => hlen k
  clear KF hlen hf
  go_enter Try.func27, Try.ntmps27
  go_wp2
  go_loopw [3] (fun i wr => ∃ k : Nat, k ≤ n ∧ i = .int .i64 k ∧ Below D w wr ∧ Hid (∀ d, d < k → f d ≠ n)) (fun i _ => n - (intOf i).toNat)
  case atStart => exact ⟨0, by omega, rfl, b0, fun d hd => absurd hd (by omega)⟩
  case round =>
    obtain ⟨k, hk, rfl, hb, hne⟩ := hrel
    clear b0 c0
    have cr := KI.out _ hb
    by_cases hlt : k < n
    · have hki : (k : Int) < (n : Int) := by omega
      have hcd : wr.drew.cell? ⟨L, 0, none⟩ = some (.int .i64 (n : Int)) := cr
      have HBD := Lib.hid (show Below D w wr.drew from hb.drew)
      have A1 := Lib.hid (KG.out _ HBD.out k)
      have hfk := hlen2.out k
      by_cases hq : f k = n
      · have htop := topF_first hlt hq hne.out
        rw [hq] at A1
        have HT := Lib.hid htop
        have e1 : ((n : Int) == (n : Int)) = true := by simp
        clear htop hb hne hq hfk
        go_wp2_with fail
        go_region_held3 (fun w' => w'.cell? ⟨L, 0, none⟩ = some (.int .i64 (n : Int))) (first | exact hcd | exact c4)
          (first | (go_at_call 24; (with_reducible refine (A1.out).mono ?_); rintro e v4 ⟨ao, cp, rfl, b4, c4⟩))
        all_goals
          go_wp2
          go_ret
          exact ⟨by rw [HT.out]; rfl, b4⟩
      · have hnx : Hid (∀ d, d < k + 1 → f d ≠ n) := fun d hd => by
          by_cases q : d = k
          · rw [q]; exact hq
          · exact hne.out d (by omega)
        generalize f k = m at *
        have e1 : ((m : Int) == (n : Int)) = false := by simp; omega
        have e2 : ¬ (m : Int) = (n : Int) := by omega
        clear hb hne hq
        go_wp2_with fail
        go_region_held3 (fun w' => w'.cell? ⟨L, 0, none⟩ = some (.int .i64 (n : Int))) (first | exact hcd | exact c4)
          (first | (go_at_call 24; (with_reducible refine (A1.out).mono ?_); rintro e v4 ⟨ao, cp, rfl, b4, c4⟩))
        all_goals
          go_wp2
          first
            | exact ⟨⟨k + 1, by omega, by go_num, b4, hnx⟩, by simp [intOf]; omega⟩
            | (refine ⟨?_, by simp [intOf]; omega⟩; repeat apply Exists.intro; exact ⟨⟨k + 1, by omega, by go_num, b4, hnx⟩, rfl⟩)
    · have hkn : k = n := by omega
      subst hkn
      have htop := topF_none hne.out
      have HT := Lib.hid htop
      have hd0 : decide ((k : Int) < (k : Int)) = false := by simp
      clear htop
      go_wp2
      go_ret
      exact ⟨by rw [HT.out]; rfl, hb⟩
set_option maxHeartbeats 1000000 in
theorem inv_rbottom (w : World) (h : I w) :
    Calls Try.prog 29 #[.pointer (some ⟨L, 0, none⟩)] w fun e w' => e = .returned (.int .i64 (topF n fun a => (rabL n F a n).length)) ∧ Below w.heap.size w w' := by
  obtain ⟨D, hD⟩ : ∃ D, D = w.heap.size := ⟨_, rfl⟩
  have KI : Hid (∀ w1, Below D w w1 → w1.cell? ⟨L, 0, none⟩ = some (.int .i64 (n : Int))) := fun w1 hb => (hL w1 (hk w w1 h (by rw [← hD]; exact hb))).count
  have KF : Hid (∀ w1, Below D w w1 → ∀ k : Nat, Calls Try.prog 23 #[.pointer (some ⟨L, 0, none⟩), .int .i64 (k : Int)] w1 fun e w' => ∃ ao cap, e = .returned (.slice ao (rabL n F k n).length cap) ∧ Below D w w' ∧ w'.cell? ⟨L, 0, none⟩ = some (.int .i64 (n : Int))) := fun w1 hb k =>
    (inv_rabove hk hL n8 k w1 (hk w w1 h (by rw [← hD]; exact hb))).mono fun e w' ⟨v, h1, h2, h3⟩ => by
      obtain ⟨ao, cap, rfl, _⟩ := own_ints h2
      have b2 : Below D w w' := hb.trans (h3.mono (by have := hb.size; omega))
      exact ⟨ao, cap, h1, b2, KI.out _ b2⟩
  rw [← hD]
  have b0 : Below D w w := by rw [hD]; exact Below.refl _ w
  have c0 := KI.out _ b0
  have hlen : ∀ k, (rabL n F (k : Int) n).length ≤ n := fun k => rabL_len n F k n
  clear hk hL h hD
  generalize hf : (fun a : Nat => (rabL n F (a : Int) n).length) = f at *
  have KG : Hid (∀ w1, Below D w w1 → ∀ k : Nat, Calls Try.prog 23 #[.pointer (some ⟨L, 0, none⟩), .int .i64 (k : Int)] w1 fun e w' => ∃ ao cap, e = .returned (.slice ao (f k) cap) ∧ Below D w w' ∧ w'.cell? ⟨L, 0, none⟩ = some (.int .i64 (n : Int))) := by
    rw [← hf]; exact KF
  have hlen2 : Hid (∀ k, f k ≤ n) := by rw [← hf]; exact fun k => hlen k
  clear KF hlen hf
  go_enter Try.func29, Try.ntmps29
  go_wp2
  go_loopw [3] (fun i wr => ∃ k : Nat, k ≤ n ∧ i = .int .i64 k ∧ Below D w wr ∧ Hid (∀ d, d < k → f d ≠ n)) (fun i _ => n - (intOf i).toNat)
  case atStart => exact ⟨0, by omega, rfl, b0, fun d hd => absurd hd (by omega)⟩
  case round =>
    obtain ⟨k, hk, rfl, hb, hne⟩ := hrel
    clear b0 c0
    have cr := KI.out _ hb
    by_cases hlt : k < n
    · have hki : (k : Int) < (n : Int) := by omega
      have hcd : wr.drew.cell? ⟨L, 0, none⟩ = some (.int .i64 (n : Int)) := cr
      have HBD := Lib.hid (show Below D w wr.drew from hb.drew)
      have A1 := Lib.hid (KG.out _ HBD.out k)
      have hfk := hlen2.out k
      by_cases hq : f k = n
      · have htop := topF_first hlt hq hne.out
        rw [hq] at A1
        have HT := Lib.hid htop
        have e1 : ((n : Int) == (n : Int)) = true := by simp
        clear htop hb hne hq hfk
        go_wp2_with fail
        go_region_held3 (fun w' => w'.cell? ⟨L, 0, none⟩ = some (.int .i64 (n : Int))) (first | exact hcd | exact c4)
          (first | (go_at_call 23; (with_reducible refine (A1.out).mono ?_); rintro e v4 ⟨ao, cp, rfl, b4, c4⟩))
        all_goals
          go_wp2
          go_ret
          exact ⟨by rw [HT.out]; rfl, b4⟩
      · have hnx : Hid (∀ d, d < k + 1 → f d ≠ n) := fun d hd => by
          by_cases q : d = k
          · rw [q]; exact hq
          · exact hne.out d (by omega)
        generalize f k = m at *
        have e1 : ((m : Int) == (n : Int)) = false := by simp; omega
        have e2 : ¬ (m : Int) = (n : Int) := by omega
        clear hb hne hq
        go_wp2_with fail
        go_region_held3 (fun w' => w'.cell? ⟨L, 0, none⟩ = some (.int .i64 (n : Int))) (first | exact hcd | exact c4)
          (first | (go_at_call 23; (with_reducible refine (A1.out).mono ?_); rintro e v4 ⟨ao, cp, rfl, b4, c4⟩))
        all_goals
          go_wp2
          first
            | exact ⟨⟨k + 1, by omega, by go_num, b4, hnx⟩, by simp [intOf]; omega⟩
            | (refine ⟨?_, by simp [intOf]; omega⟩; repeat apply Exists.intro; exact ⟨⟨k + 1, by omega, by go_num, b4, hnx⟩, rfl⟩)
    · have hkn : k = n := by omega
      subst hkn
      have htop := topF_none hne.out
      have HT := Lib.hid htop
      have hd0 : decide ((k : Int) < (k : Int)) = false := by simp
      clear htop
      go_wp2
      go_ret
      exact ⟨by rw [HT.out]; rfl, hb⟩
end
end Go.Proofs.Ytbkpfiagoinoiaa
