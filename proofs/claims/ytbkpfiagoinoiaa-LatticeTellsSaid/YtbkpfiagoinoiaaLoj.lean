/- Are there loops; has each pair a join and a meet: what the calls return; nothing that was there turns. Conditions: there are at most eight levels. -/
import Derived.Test.YtbkpfiagoinoiaaBnd
namespace Go.Proofs.Ytbkpfiagoinoiaa
open Go.RowKit
set_option linter.unusedVariables false

def loopB (n : Nat) (G : Flw) : Bool := (List.range n).any fun a => (List.range a).any fun b => G a b && G b a
theorem loopB_true {n : Nat} {G : Flw} {a b : Nat} (ha : a < n) (hb : b < a) (h : (G a b && G b a) = true) : loopB n G = true := by
  unfold loopB
  rw [List.any_eq_true]
  refine ⟨a, by simpa using ha, ?_⟩
  rw [List.any_eq_true]
  exact ⟨b, by simpa using hb, h⟩
theorem loopB_false {n : Nat} {G : Flw} (h : ∀ a, a < n → ∀ b, b < a → (G a b && G b a) = false) : loopB n G = false := by
  unfold loopB
  rw [List.any_eq_false]
  intro a ha
  rw [Bool.not_eq_true, List.any_eq_false]
  intro b hb
  rw [h a (by simpa using ha) b (by simpa using hb)]
  decide
def joinB (n : Nat) (G : Flw) : Bool := (List.range n).all fun a => (List.range a).all fun b => decide (lstI G n a b ≠ -1) && decide (lstI (turn G) n a b ≠ -1)
theorem joinB_false {n : Nat} {G : Flw} {a b : Nat} (ha : a < n) (hb : b < a) (h : lstI G n a b = -1 ∨ lstI (turn G) n a b = -1) : joinB n G = false := by
  unfold joinB
  rw [List.all_eq_false]
  refine ⟨a, by simpa using ha, ?_⟩
  rw [Bool.not_eq_true, List.all_eq_false]
  refine ⟨b, by simpa using hb, ?_⟩
  rcases h with h | h <;> simp [h]
theorem joinB_true {n : Nat} {G : Flw} (h : ∀ a, a < n → ∀ b, b < a → lstI G n a b ≠ -1 ∧ lstI (turn G) n a b ≠ -1) : joinB n G = true := by
  unfold joinB
  rw [List.all_eq_true]
  intro a ha
  rw [List.all_eq_true]
  intro b hb
  have := h a (by simpa using ha) b (by simpa using hb)
  simp [this.1, this.2]
theorem ret_bool {a b : Bool} (h : a = b) : Ending.returned (.bool a) = .returned (.bool b) := by rw [h]

set_option maxHeartbeats 1000000 in
theorem loops_any (b n : Nat) (G : Flw) (w : World) (hn : n ≤ 8) (h : IsL w b n G) :
    Calls Try.prog 34 #[.pointer (some ⟨b, 0, none⟩)] w fun e w' => e = .returned (.bool (loopB n G)) ∧ w = w' := by
  have hc := h.count
  have H := Lib.hid h
  obtain ⟨r, hr⟩ : ∃ r, r = loopB n G := ⟨_, rfl⟩
  rw [← hr]
  have HR := Lib.hid hr
  clear h hr
  go_enter Try.func34, Try.ntmps34
  go_wp2
  go_loop [3, 4, 9, 13] (fun _ _ i _ => ∃ a : Nat, a ≤ n ∧ i = .int .i64 a ∧ Hid (∀ x, x < a → ∀ y, y < x → (G x y && G y x) = false)) (fun _ _ i _ => n - (intOf i).toNat)
  case atStart => exact ⟨0, by omega, rfl, fun x hx => absurd hx (by omega)⟩
  case round =>
    obtain ⟨a, ha, rfl, hf⟩ := hrel
    clear hc
    by_cases hlt : a < n
    · have hai : (a : Int) < (n : Int) := by omega
      go_wp2
      go_loop [4, 13] (fun _ i => ∃ c : Nat, c ≤ a ∧ i = .int .i64 c ∧ Hid (∀ y, y < c → (G a y && G y a) = false)) (fun _ i => a - (intOf i).toNat)
      case atStart => exact ⟨0, by omega, rfl, fun x hx => absurd hx (by omega)⟩
      case round =>
        obtain ⟨c, hc, rfl, hf2⟩ := hrel
        by_cases hlt2 : c < a
        · have hci : (c : Int) < (a : Int) := by omega
          have ha8 : (a : Int) < 8 := by omega
          have hc8 : (c : Int) < 8 := by omega
          have hi1 := index49 b 1 a (by omega)
          have hi2 := index47 b (1 + a * 8) c (by omega)
          have hi3 := index49 b 1 c (by omega)
          have hi4 := index47 b (1 + c * 8) a (by omega)
          have c1 := H.out.at a c (by omega) (by omega)
          have c2 := H.out.at c a (by omega) (by omega)
          have hyes : (G a c && G c a) = true → r = true := fun q => by rw [HR.out]; exact loopB_true hlt hlt2 q
          have hno : Hid ((G a c && G c a) = false → ∀ y, y < c + 1 → (G a y && G y a) = false) := fun q y hy => by
            by_cases e : y = c
            · subst e; exact q
            · exact hf2.out y (by omega)
          cases hp : G a c with
          | false =>
            have hno2 := Lib.hid (hno.out (by rw [hp]; rfl))
            rw [hp] at c1
            clear hyes hno hp
            generalize G c a = q at *
            go_wp2
            first
              | exact ⟨⟨c + 1, by omega, by go_num, hno2⟩, by simp [intOf]; omega⟩
              | (refine ⟨?_, by simp [intOf]; omega⟩; repeat apply Exists.intro; exact ⟨⟨c + 1, by omega, by go_num, hno2⟩, rfl⟩)
          | true =>
            cases hq : G c a with
            | false =>
              have hno2 := Lib.hid (hno.out (by rw [hp, hq]; rfl))
              rw [hp] at c1
              rw [hq] at c2
              clear hyes hno hp hq
              go_wp2
              first
                | exact ⟨⟨c + 1, by omega, by go_num, hno2⟩, by simp [intOf]; omega⟩
                | (refine ⟨?_, by simp [intOf]; omega⟩; repeat apply Exists.intro; exact ⟨⟨c + 1, by omega, by go_num, hno2⟩, rfl⟩)
            | true =>
              have hrr := hyes (by rw [hp, hq]; rfl)
              subst hrr
              rw [hp] at c1
              rw [hq] at c2
              clear hyes hno hp hq
              go_wp2
              go_ret
              exact ⟨rfl, rfl⟩
        · have hca : c = a := by omega
          subst hca
          have hf3 : Hid (∀ x, x < c + 1 → ∀ y, y < x → (G x y && G y x) = false) := fun x hx y hy => by
            by_cases e : x = c
            · subst e; exact hf2.out y hy
            · exact hf.out x (by omega) y hy
          go_wp2
          first
            | exact ⟨⟨c + 1, by omega, by go_num, hf3⟩, by simp [intOf]; omega⟩
            | (refine ⟨?_, by simp [intOf]; omega⟩; repeat apply Exists.intro; exact ⟨⟨c + 1, by omega, by go_num, hf3⟩, rfl⟩)
    · have han : a = n := by omega
      subst han
      have hrr : r = false := by rw [HR.out]; exact loopB_false hf.out
      subst hrr
      go_wp2
      go_ret
      exact ⟨rfl, rfl⟩

set_option maxHeartbeats 2000000 in
theorem joined_any (b n : Nat) (G : Flw) (w : World) (hn : n ≤ 8) (h : IsL w b n G) :
    Calls Try.prog 35 #[.pointer (some ⟨b, 0, none⟩)] w fun e w' => e = .returned (.bool (joinB n G)) ∧ Below w.heap.size w w' := by
  have hc := h.count
  have hlt := h.lt
  have H := Lib.hid h
  have AJ : Hid (∀ w1 x y, Below w.heap.size w w1 → Calls Try.prog 16 #[.pointer (some ⟨b, 0, none⟩), .int .i64 x, .int .i64 y] w1 fun e w' => e = .returned (.int .i64 (lstI G n x y)) ∧ Below w1.heap.size w1 w') :=
    fun w1 x y q => join_any b n G x y w1 hn (h.below q hlt)
  have AM : Hid (∀ w1 x y, Below w.heap.size w w1 → Calls Try.prog 18 #[.pointer (some ⟨b, 0, none⟩), .int .i64 x, .int .i64 y] w1 fun e w' => e = .returned (.int .i64 (lstI (turn G) n x y)) ∧ Below w1.heap.size w1 w') :=
    fun w1 x y q => meet_any b n G x y w1 hn (h.below q hlt)
  obtain ⟨r, hr⟩ : ∃ r, r = joinB n G := ⟨_, rfl⟩
  rw [← hr]
  have HR := Lib.hid hr
  have hfalse : Hid (∀ x y : Nat, x < n → y < x → lstI G n x y = -1 ∨ lstI (turn G) n x y = -1 → r = false) := fun x y hx hy q => by rw [HR.out]; exact joinB_false hx hy q
  have htrue : Hid ((∀ x : Nat, x < n → ∀ y : Nat, y < x → lstI G n x y ≠ -1 ∧ lstI (turn G) n x y ≠ -1) → r = true) := fun q => by rw [HR.out]; exact joinB_true q
  generalize lstI G n = fj at *
  generalize lstI (turn G) n = fm at *
  clear h hr
  go_enter Try.func35, Try.ntmps35
  go_wp2
  go_loopw [3, 4, 9, 13] (fun _ _ i _ wr => ∃ a : Nat, a ≤ n ∧ i = .int .i64 a ∧ Hid (∀ x : Nat, x < a → ∀ y : Nat, y < x → fj x y ≠ -1 ∧ fm x y ≠ -1) ∧ Below w.heap.size w wr) (fun _ _ i _ _ => n - (intOf i).toNat)
  case atStart => exact ⟨0, by omega, rfl, fun x hx => absurd hx (by omega), Below.refl _ _⟩
  case round =>
    obtain ⟨a, ha, rfl, hf, hb⟩ := hrel
    obtain ⟨wo, rfl⟩ : ∃ wo : World, wo = wr := ⟨_, rfl⟩
    clear hc
    by_cases hlt : a < n
    · have hai : (a : Int) < (n : Int) := by omega
      go_wp2
      go_loopw [4, 13] (fun _ i wr => ∃ c : Nat, c ≤ a ∧ i = .int .i64 c ∧ Hid (∀ y : Nat, y < c → fj a y ≠ -1 ∧ fm a y ≠ -1) ∧ Below w.heap.size w wr) (fun _ i _ => a - (intOf i).toNat)
      case atStart => exact ⟨0, by omega, rfl, fun x hx => absurd hx (by omega), hb⟩
      case round =>
        obtain ⟨c, hc, rfl, hf2, hb⟩ := hrel
        by_cases hlt2 : c < a
        · have hci : (c : Int) < (a : Int) := by omega
          have hno : Hid (fj a c ≠ -1 ∧ fm a c ≠ -1 → ∀ y : Nat, y < c + 1 → fj a y ≠ -1 ∧ fm a y ≠ -1) := fun q y hy => by
            by_cases e : y = c
            · subst e; exact q
            · exact hf2.out y (by omega)
          have J1 := Lib.hid (fun w1 q => AJ.out w1 a c q)
          have M1 := Lib.hid (fun w1 q => AM.out w1 a c q)
          have hF := Lib.hid (hfalse.out a c hlt hlt2)
          generalize fj a c = p at *
          generalize fm a c = q at *
          by_cases hp : p = -1
          · have e := hF.out (.inl hp)
            subst hp
            subst e
            clear hno
            go_wp2_with fail
            (with_reducible refine (J1.out _ hb).mono ?_)
            rintro e w2 ⟨rfl, c2⟩
            go_wp2_with fail
            go_ret
            exact ⟨rfl, below_trans hb c2⟩
          · have hpd : (p == -1) = false := by simpa using hp
            by_cases hq : q = -1
            · have e := hF.out (.inr hq)
              subst hq
              subst e
              clear hno
              go_wp2_with fail
              (with_reducible refine (J1.out _ hb).mono ?_)
              rintro e w2 ⟨rfl, c2⟩
              have B2 := below_trans hb c2
              go_wp2_with fail
              (with_reducible refine (M1.out _ B2).mono ?_)
              rintro e w3 ⟨rfl, c3⟩
              go_wp2_with fail
              go_ret
              exact ⟨rfl, below_trans B2 c3⟩
            · have hqd : (q == -1) = false := by simpa using hq
              have hno2 := Lib.hid (hno.out ⟨hp, hq⟩)
              clear hno
              go_wp2_with fail
              (with_reducible refine (J1.out _ hb).mono ?_)
              rintro e w2 ⟨rfl, c2⟩
              have B2 := below_trans hb c2
              go_wp2_with fail
              (with_reducible refine (M1.out _ B2).mono ?_)
              rintro e w3 ⟨rfl, c3⟩
              have B3 := below_trans B2 c3
              go_wp2_with fail
              first
                | exact ⟨⟨c + 1, by omega, by go_num, hno2, B3⟩, by simp [intOf]; omega⟩
                | (refine ⟨?_, by simp [intOf]; omega⟩; repeat apply Exists.intro; exact ⟨⟨c + 1, by omega, by go_num, hno2, B3⟩, rfl⟩)
        · have hca : c = a := by omega
          subst hca
          have hf3 : Hid (∀ x : Nat, x < c + 1 → ∀ y : Nat, y < x → fj x y ≠ -1 ∧ fm x y ≠ -1) := fun x hx y hy => by
            by_cases e : x = c
            · subst e; exact hf2.out y hy
            · exact hf.out x (by omega) y hy
          go_wp2
          first
            | exact ⟨⟨c + 1, by omega, by go_num, hf3, hb⟩, by simp [intOf]; omega⟩
            | (refine ⟨?_, by simp [intOf]; omega⟩; repeat apply Exists.intro; exact ⟨⟨c + 1, by omega, by go_num, hf3, hb⟩, rfl⟩)
    · have han : a = n := by omega
      subst han
      have hrr : r = true := htrue.out hf.out
      subst hrr
      go_wp2
      go_ret
      exact ⟨rfl, hb⟩
end Go.Proofs.Ytbkpfiagoinoiaa
