/- Which texts are labels. No conditions. -/
import Derived.Test.YtmclcobklcjmnaaDoorLin
namespace Go.Proofs.YtmclcobklcjmnaaDoor
open Go.RowKit Go.Maps
set_option linter.unusedVariables false
set_option linter.unusedSimpArgs false

def letB (b : UInt8) : Bool := decide (97 ≤ b.toNat) && decide (b.toNat ≤ 122)
def okB (b : UInt8) : Bool := letB b || (decide (48 ≤ b.toNat) && decide (b.toNat ≤ 57))
def labB : Bs → Bool
  | [] => false
  | x :: l => decide ((x :: l).length ≤ 12) && letB x && (x :: l).all okB
set_option maxHeartbeats 1000000 in
theorem let_any (b : UInt8) (w : World) : Calls Tryd.prog 76 #[.int .u8 (b.toNat : Nat)] w fun e w' => e = .returned (.bool (letB b)) ∧ w' = w := by
  unfold letB
  by_cases h1 : 97 ≤ b.toNat
  · have h1i : (97 : Int) ≤ (b.toNat : Int) := by omega
    by_cases h2 : b.toNat ≤ 122
    · have h2i : (b.toNat : Int) ≤ 122 := by omega
      go_enter Tryd.func76, Tryd.ntmps76
      go_wp2
      go_ret
      exact ⟨ret_bool (by simp [h1, h2]), rfl⟩
    · have h2i : ¬ (b.toNat : Int) ≤ 122 := by omega
      go_enter Tryd.func76, Tryd.ntmps76
      go_wp2
      go_ret
      exact ⟨ret_bool (by simp [h1, h2]; try omega), rfl⟩
  · have h1i : ¬ (97 : Int) ≤ (b.toNat : Int) := by omega
    go_enter Tryd.func76, Tryd.ntmps76
    go_wp2
    go_ret
    exact ⟨ret_bool (by simp [h1]; try omega), rfl⟩
set_option maxRecDepth 100000 in
set_option maxHeartbeats 4000000 in
theorem lab_any (s : ByteArray) (w : World) : Calls Tryd.prog 65 #[.string s] w fun e w' => e = .returned (.bool (labB s.data.toList)) ∧ Below w.heap.size w w' := by
  have KL := Lib.hid let_any
  cases hl : s.data.toList with
  | nil =>
    obtain rfl : s = ByteArray.empty := by rw [← str_toList s, hl]; rfl
    unfold labB
    clear hl
    have e1 : ByteArray.empty.toList = [] := by rw [ByteArray.toList_eq]; rfl
    go_enter Tryd.func65, Tryd.ntmps65
    go_wp2
    go_ret
    exact ⟨rfl, Below.refl _ _⟩
  | cons x l =>
    rw [show labB (x :: l) = (decide ((x :: l).length ≤ 12) && letB x && (x :: l).all okB) from rfl]
    have e1 : s.toList.isEmpty = false := by rw [ByteArray.toList_eq, hl]; rfl
    have e2 : ¬ s.toList = [] := by rw [ByteArray.toList_eq, hl]; simp
    have hsz : s.size = (x :: l).length := by rw [← hl, Array.length_toList]; rfl
    have hpos : 0 < s.size := by rw [hsz]; simp
    have h0 : s[0]'hpos = x := by
      have : s.data.toList[0]'(by rw [hl]; simp) = x := by simp [hl]
      exact this
    by_cases h12 : (x :: l).length ≤ 12
    · have h12i : ¬ (12 : Int) < (s.size : Int) := by omega
      cases hx : letB x with
      | false =>
        have KX := Lib.hid (KL.out x)
        rw [hx] at KX
        rw [Bool.and_false, Bool.false_and]
        have D : Hid (s[0]'hpos = x) := h0
        clear h0 hl hsz hx h12 KL
        go_enter Tryd.func65, Tryd.ntmps65
        go_wp2_with (go_at_call 76; rw [D.out]; (with_reducible refine (KX.out _).mono ?_); rintro e w1 ⟨rfl, rfl⟩)
        go_ret
        exact ⟨rfl, Below.refl _ _⟩
      | true =>
        rw [decide_eq_true h12, Bool.true_and, Bool.true_and]
        have KX := Lib.hid (KL.out x)
        rw [hx] at KX
        have D : Hid (s[0]'hpos = x) := h0
        have HH := Lib.hid (And.intro hl hsz)
        have cv : ∀ W, (convert 9 37 (.string s)).run Tryd.prog W = .ok (.slice (some ⟨W.heap.size, 0, none⟩) s.size (grownCap W s.size 0 5)) (Lib.bytesWorld W 5 s) := fun W => Lib.run_convert_string_bytes (P := Tryd.prog) W 9 37 5 s Tryd.underlying9 Tryd.underlying37 Tryd.underlying5
        obtain ⟨B, hB⟩ : ∃ B, B = (x :: l).all okB := ⟨_, rfl⟩
        rw [← hB]
        have HB := Lib.hid hB
        clear h0 hl hsz hx h12 hB
        go_enter Tryd.func65, Tryd.ntmps65
        go_wp2_with (go_at_call 76; rw [D.out]; (with_reducible refine (KX.out _).mono ?_); rintro e w1 ⟨rfl, rfl⟩)
        obtain ⟨W, hW⟩ : ∃ W, W = Lib.bytesWorld w1 5 s := ⟨_, rfl⟩
        have cells : Hid (∀ j, j < s.size → W.cell? ⟨w1.heap.size, j, none⟩ = some (.int .u8 (s.data.toList.getD j 0).toNat)) := Lib.hid fun j hj => by
          rw [hW]
          exact Lib.bytesWorld_cell w1 5 s j hj
        have HBW : Hid (Below w1.heap.size w1 W) := Lib.hid (by rw [hW]; exact Lib.bytesWorld_below _ _ _)
        rw [← hW]
        generalize grownCap _ _ _ _ = cap
        clear hW cv
        go_loop [21] (fun i => ∃ k : Nat, k ≤ s.size ∧ i = .int .i64 k ∧ ∀ j, j < k → okB ((x :: l).getD j 0) = true) (fun i => s.size - (intOf i).toNat)
        case atStart => exact ⟨0, Nat.zero_le _, rfl, fun j hj => absurd hj (by omega)⟩
        case round =>
          obtain ⟨k, hk, rfl, hall⟩ := hrel
          have HA := Lib.hid hall
          clear hall
          by_cases hlt : k < s.size
          · have c := cells.out k hlt
            rw [HH.out.1] at c
            obtain ⟨b, hb⟩ : ∃ b, b = (x :: l).getD k 0 := ⟨_, rfl⟩
            rw [← hb] at c
            have KB := Lib.hid (KL.out b)
            have hok : okB b = true → ∀ j, j < k + 1 → okB ((x :: l).getD j 0) = true := fun h j hj => by
              rcases Nat.lt_succ_iff_lt_or_eq.1 hj with h2 | rfl
              · exact HA.out j h2
              · rw [← hb]; exact h
            have hno : okB b = false → B = false := fun h => by
              rw [HB.out]
              cases h9 : (x :: l).all okB with
              | false => rfl
              | true =>
                have hkl : k < (x :: l).length := by have := HH.out.2; omega
                have := List.all_eq_true.1 h9 b (by rw [hb, List.getD_eq_getElem?_getD, List.getElem?_eq_getElem hkl]; exact List.getElem_mem hkl)
                rw [h] at this
                cases this
            have HO := Lib.hid (And.intro hok hno)
            clear hok hno hb
            cases h3 : letB b with
            | true =>
              rw [h3] at KB
              have h4 : okB b = true := by unfold okB; rw [h3]; rfl
              have HN := Lib.hid (HO.out.1 h4)
              clear h3 h4
              go_wp2_with (go_at_call 76; (with_reducible refine (KB.out _).mono ?_); rintro e w3 ⟨rfl, rfl⟩)
              exact ⟨⟨k + 1, by omega, by go_num, HN.out⟩, by simp [intOf]; omega⟩
            | false =>
              rw [h3] at KB
              by_cases h5 : 48 ≤ b.toNat
              · have h5i : ¬ (b.toNat : Int) < 48 := by omega
                by_cases h6 : b.toNat ≤ 57
                · have h6i : ¬ (57 : Int) < (b.toNat : Int) := by omega
                  have h4 : okB b = true := by unfold okB; rw [h3, decide_eq_true h5, decide_eq_true h6]; rfl
                  have HN := Lib.hid (HO.out.1 h4)
                  clear h3 h4 h5 h6
                  go_wp2_with (go_at_call 76; (with_reducible refine (KB.out _).mono ?_); rintro e w3 ⟨rfl, rfl⟩)
                  exact ⟨⟨k + 1, by omega, by go_num, HN.out⟩, by simp [intOf]; omega⟩
                · have h6i : (57 : Int) < (b.toNat : Int) := by omega
                  have h4 : okB b = false := by unfold okB; rw [h3, decide_eq_false h6, Bool.and_false]; rfl
                  have HN := Lib.hid (HO.out.2 h4)
                  clear h3 h4 h5 h6
                  go_wp2_with (go_at_call 76; (with_reducible refine (KB.out _).mono ?_); rintro e w3 ⟨rfl, rfl⟩)
                  go_ret
                  exact ⟨by rw [HN.out]; rfl, HBW.out⟩
              · have h5i : (b.toNat : Int) < 48 := by omega
                have h4 : okB b = false := by unfold okB; rw [h3, decide_eq_false h5, Bool.false_and]; rfl
                have HN := Lib.hid (HO.out.2 h4)
                clear h3 h4 h5
                go_wp2_with (go_at_call 76; (with_reducible refine (KB.out _).mono ?_); rintro e w3 ⟨rfl, rfl⟩)
                go_ret
                exact ⟨by rw [HN.out]; rfl, HBW.out⟩
          · obtain rfl : k = s.size := by omega
            have hB : B = true := by
              rw [HB.out]
              refine List.all_eq_true.2 fun b hb => ?_
              obtain ⟨i, hi, rfl⟩ := List.getElem_of_mem hb
              have := HA.out i (by rw [HH.out.2]; exact hi)
              rwa [List.getD_eq_getElem?_getD, List.getElem?_eq_getElem hi] at this
            have HN := Lib.hid hB
            clear hB
            go_wp2
            go_ret
            exact ⟨by rw [HN.out]; rfl, HBW.out⟩
    · rw [decide_eq_false h12, Bool.false_and, Bool.false_and]
      have h12i : (12 : Int) < (s.size : Int) := by omega
      clear h0 hl hsz h12 KL
      go_enter Tryd.func65, Tryd.ntmps65
      go_wp2
      go_ret
      exact ⟨rfl, Below.refl _ _⟩
end Go.Proofs.YtmclcobklcjmnaaDoor
