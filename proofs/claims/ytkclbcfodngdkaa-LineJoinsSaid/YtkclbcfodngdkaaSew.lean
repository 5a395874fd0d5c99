/- Any bytes are sent as the row that the document says, or refused: the walk. Conditions: the bytes are within reach. -/
import Derived.Test.YtkclbcfodngdkaaRsn
namespace Go.Proofs.Ytkclbcfodngdkaa
open Go.RowKit
set_option linter.unusedVariables false
attribute [local go_sem] run_store_cpl

theorem block_lt {w : World} {b : Nat} {o : Obj} (h : w.heap[b]? = some o) : b < w.heap.size := by
  rcases Nat.lt_or_ge b w.heap.size with h' | h'
  · exact h'
  · simp [Array.getElem?_eq_none h'] at h
theorem block_setCell {w : World} {b o : Nat} {C : Array Value} {t : TypeId} {fr : Nat × Nat} {u : Value} (h : w.heap[b]? = some (.cells C t fr)) :
    (w.setCell ⟨b, o, none⟩ u).heap[b]? = some (.cells (C.setIfInBounds o u) t fr) := by
  have hlt := block_lt h
  have h' : w.heap[b] = .cells C t fr := by simpa [Array.getElem?_eq_getElem hlt] using h
  show (w.heap.modify b _)[b]? = _
  rw [Array.getElem?_eq_getElem (by simpa using hlt), Array.getElem_modify_self, h']
  rfl
theorem own_lower {w : World} {base base' : Nat} {e : TypeId} {size n : Nat} {v : Value} {xs : List Value} (h : w.ownsRow base e size v n xs) (hb : base' ≤ base) : w.ownsRow base' e size v n xs := by
  obtain ⟨h1, h2 | ⟨g, cap, cur, q1, q2, q3⟩⟩ := h
  · exact ⟨h1, .inl h2⟩
  · exact ⟨h1, .inr ⟨g, cap, cur, q1, Nat.le_trans hb q2, q3⟩⟩
theorem own_below {w w' : World} {base B : Nat} {e : TypeId} {size : Nat} {v : Value} {n : Nat} {xs : List Value} (h : w.ownsRow base e size v n xs) (hb : Below B w w') (hB : w.heap.size ≤ B) : w'.ownsRow base e size v n xs := by
  obtain ⟨h1, h2 | ⟨g, cap, cur, q1, q2, q3, q4⟩⟩ := h
  · exact ⟨h1, .inl h2⟩
  · exact ⟨h1, .inr ⟨g, cap, cur, q1, q2, by rw [hb.block g (Nat.lt_of_lt_of_le (block_lt q3) hB)]; exact q3, q4⟩⟩
theorem own_set {w : World} {base : Nat} {e : TypeId} {size g n cap : Nat} {xs : List Value} (h : w.ownsRow base e size (.slice (some ⟨g, 0, none⟩) n cap) n xs) (o : Nat) (v : Value) : ∃ xs', (w.setCell ⟨g, o, none⟩ v).ownsRow base e size (.slice (some ⟨g, 0, none⟩) n cap) n xs' := by
  obtain ⟨h1, ⟨q, _⟩ | ⟨g', cap', cur, q1, q2, q3, q4, q5, q6, q7⟩⟩ := h
  · simp at q
  · simp only [Value.slice.injEq, Option.some.injEq, Addr.mk.injEq] at q1
    obtain ⟨⟨rfl, _, _⟩, _, rfl⟩ := q1
    refine ⟨(cur.setIfInBounds o v).toList.take (n * size), ?_, .inr ⟨g, cap, cur.setIfInBounds o v, rfl, q2, block_setCell q3, q4, q5, by simpa using q6, rfl⟩⟩
    rw [List.length_take, Array.length_toList, Array.size_setIfInBounds, q6]
    have := Nat.mul_le_mul_right size q4
    omega
/-- a row of at least one: its block, its cells -/
theorem own_open {w : World} {base : Nat} {e : TypeId} {size n cap : Nat} {ao : Option Addr} {xs : List Value} (h : w.ownsRow base e size (.slice ao n cap) n xs) (hn : 0 < n) :
    ∃ g, ao = some ⟨g, 0, none⟩ ∧ base ≤ g ∧ (∀ j, w.frozen? ⟨g, j, none⟩ = false) ∧ (∀ j, j < n * size → ∃ u, w.cell? ⟨g, j, none⟩ = some u) := by
  obtain ⟨h1, ⟨q, q0⟩ | ⟨g', cap', cur, q1, q2, q3, q4, q5, q6, q7⟩⟩ := h
  · omega
  · simp only [Value.slice.injEq] at q1
    obtain ⟨rfl, _, rfl⟩ := q1
    refine ⟨g', rfl, q2, fun j => by simp [World.frozen?, q3], fun j hj => ?_⟩
    have := Nat.mul_le_mul_right size q4
    exact ⟨cur[j]'(by omega), by rw [cell_of_row _ _ _ _ _ _ q3, Array.getElem?_eq_getElem]⟩
set_option maxRecDepth 100000 in
set_option maxHeartbeats 4000000 in
theorem sends_walk (s : ByteArray) (w : World) (hs2 : s.size ≤ 281474976710656) : Calls Try.prog 3 #[.string s] w fun e w' => e = .returned (.bool true) ∧ Below w.heap.size w w' := by
  obtain ⟨D, hD⟩ : ∃ D, D = w.heap.size := ⟨_, rfl⟩
  have b0 : Below D w w := by rw [hD]; exact Below.refl _ _
  have FX : Hid (∀ w1, Below D w w1 → Calls Try.prog 8 #[] w1 fun e w' => e = .returned (.bool true) ∧ Below D w w') := fun w1 h =>
    (fixed_any w1).mono fun e w' ⟨h1, h2⟩ => ⟨h1, h.trans (h2.mono (by have := h.size; omega))⟩
  have SM : Hid (∀ (l : List Value), l.length ≤ 1000000 → Cpl l → ∀ ao1 cap1 ao2 cap2 w1, Below D w w1 → LiesV w1 ao1 l → LiesV w1 ao2 l → Calls Try.prog 7 #[.slice ao1 l.length cap1, .slice ao2 l.length cap2] w1 fun e w' => e = .returned (.bool true) ∧ Below D w w' ∧ Below w1.heap.size w1 w') := fun l hl hc ao1 cap1 ao2 cap2 w1 h h1 h2 =>
    (samec_any ao1 ao2 cap1 cap2 l w1 hl hc h1 h2).mono fun e w' ⟨q, k, hk⟩ => by
      rw [hk]
      exact ⟨q, below_drewN h k, below_drewN (Below.refl _ _) k⟩
  rw [← hD]
  by_cases hlen : 2047 < s.size
  · have A5 := Lib.hid (fun w1 => send_long s w1 hlen hs2)
    have A6 := Lib.hid (fun w1 => rsend_long s w1 hlen hs2)
    have S0 : Hid (∀ w1, Below D w w1 → Calls Try.prog 7 #[.slice none 0 0, .slice none 0 0] w1 fun e w' => e = .returned (.bool true) ∧ Below D w w') := fun w1 h =>
      (SM.out [] (by decide) (fun v hv => by cases hv) none 0 none 0 w1 h (fun i v hi => by simp at hi) (fun i v hi => by simp at hi)).mono fun e w' ⟨h1, h2, _⟩ => ⟨h1, h2⟩
    clear hD SM
    go_enter Try.func3, Try.ntmps3
    go_wp2
    go_loopw [3] (fun i wr => ∃ t : Nat, t ≤ 2 ∧ i = .int .i64 t ∧ Below D w wr) (fun i _ => 2 - (intOf i).toNat)
    case atStart => exact ⟨0, by omega, rfl, b0⟩
    case round =>
      obtain ⟨t, ht, rfl, hb⟩ := hrel
      clear b0
      by_cases hlt : t < 2
      · have hti : (t : Int) < 2 := by omega
        go_wp2_with (first
          | (go_at_call 5; (with_reducible refine (A5.out _).mono ?_); rintro e w' ⟨rfl, rfl⟩)
          | (go_at_call 6; (with_reducible refine (A6.out _).mono ?_); rintro e w' ⟨rfl, rfl⟩)
          | (go_at_call 7; (with_reducible refine (S0.out _ hb).mono ?_); rintro e w' ⟨rfl, gg⟩))
        go_loop [8] (fun i => i = .int .i64 0) (fun _ => 0)
        case atStart => rfl
        case round =>
          subst hrel
          go_wp2
          first
            | exact ⟨⟨t + 1, by omega, by go_num, gg⟩, by simp [intOf]; omega⟩
            | (refine ⟨?_, by simp [intOf]; omega⟩; repeat apply Exists.intro; exact ⟨⟨t + 1, by omega, by go_num, gg⟩, rfl⟩)
      · have hd : decide ((t : Int) < 2) = false := by simp; omega
        go_wp2_with (go_at_call 8; (with_reducible refine (FX.out _ hb).mono ?_); rintro e w' ⟨rfl, gg⟩)
        go_ret
        exact ⟨rfl, gg⟩
  · have S5 : Hid (∀ w1, Below D w w1 → Calls Try.prog 5 #[.string s] w1 fun e w' => ∃ ao cap, e = .returned (.tuple #[.slice ao (rowP s.data.toList).length cap, .int .i64 0]) ∧ w'.ownsRow D 27 1 (.slice ao (rowP s.data.toList).length cap) (rowP s.data.toList).length (rowP s.data.toList) ∧ LiesV w' ao (rowP s.data.toList) ∧ Below D w w') := fun w1 h =>
      (send_any s w1 (by omega)).mono fun e w' ⟨v, h1, h2, h3⟩ => by
        have hsz := h.size
        obtain ⟨ao, cap, rfl, hl, _⟩ := own_lies h2.1
        exact ⟨ao, cap, h1, own_lower h2.1 (by omega), hl, h.trans (h3.mono (by omega))⟩
    have S6 : Hid (∀ w1, Below D w w1 → Calls Try.prog 6 #[.string s] w1 fun e w' => ∃ ao cap, e = .returned (.tuple #[.slice ao (rowP s.data.toList).length cap, .int .i64 0]) ∧ LiesV w' ao (rowP s.data.toList) ∧ Below D w w' ∧ Below w1.heap.size w1 w') := fun w1 h =>
      (rsend_any s w1 (by omega)).mono fun e w' ⟨v, h1, h2, h3⟩ => by
        have hsz := h.size
        obtain ⟨ao, cap, rfl, hl, _⟩ := own_lies h2.1
        exact ⟨ao, cap, h1, hl, h.trans (h3.mono (by omega)), h3⟩
    have hrl : (rowP s.data.toList).length ≤ 1000000 := by rw [rowP_len]; simp; omega
    have SS := Lib.hid (SM.out (rowP s.data.toList) hrl (cpl_row _))
    generalize rowP s.data.toList = row at *
    obtain ⟨N, hN⟩ : ∃ N, N = row.length := ⟨_, rfl⟩
    rw [← hN] at S5 S6 SS hrl
    clear hD SM hN
    go_enter Try.func3, Try.ntmps3
    go_wp2
    go_loopw [3] (fun i wr => ∃ t : Nat, t ≤ 2 ∧ i = .int .i64 t ∧ Below D w wr) (fun i _ => 2 - (intOf i).toNat)
    case atStart => exact ⟨0, by omega, rfl, b0⟩
    case round =>
      obtain ⟨t, ht, rfl, hb⟩ := hrel
      clear b0
      by_cases hlt : t < 2
      · have hti : (t : Int) < 2 := by omega
        go_wp2_with (first
          | (go_at_call 5; (with_reducible refine (S5.out _ hb).mono ?_); rintro e w1 ⟨a1, c1, rfl, ow1, li1, hb1⟩)
          | (go_at_call 6; (with_reducible refine (S6.out _ hb1).mono ?_); rintro e w2 ⟨a2, c2, rfl, li2, hb2, k2⟩)
          | (go_at_call 7; (with_reducible refine (SS.out _ _ _ _ _ hb2 (li1.below k2 (Nat.le_refl _)) li2).mono ?_); rintro e w3 ⟨rfl, hb3, k3⟩))
        have ow := own_below (own_below ow1 k2 (Nat.le_refl _)) k3 (Nat.le_refl _)
        clear ow1 li1 li2 hb1 hb2 k2 k3 hb
        go_loopw [8] (fun i wr => ∃ j : Nat, ∃ xs : List Value, j ≤ N ∧ i = .int .i64 j ∧ Below D w wr ∧ wr.ownsRow D 27 1 (.slice a1 N c1) N xs) (fun i _ => N - (intOf i).toNat)
        case atStart => exact ⟨0, _, by omega, rfl, hb3, ow⟩
        case round =>
          obtain ⟨j, xs, hj, rfl, hb4, ow4⟩ := hrel
          clear hb3 ow
          by_cases hlj : j < N
          · have hji : (j : Int) < (N : Int) := by omega
            obtain ⟨g, rfl, hgB, hfz, hcs⟩ := own_open ow4 (by omega)
            obtain ⟨u0, c0⟩ := hcs j (by omega)
            have hb5 : Below D w (wr.setCell ⟨g, j, none⟩ (.complex .f64 4619567317775286272 0)) := hb4.setCell hgB _
            obtain ⟨xs2, ow5⟩ := own_set ow4 j (.complex .f64 4619567317775286272 0)
            clear hcs ow4 hb4
            go_wp2
            first
              | exact ⟨⟨j + 1, _, by omega, by go_num, hb5, ow5⟩, by simp [intOf]; omega⟩
              | (refine ⟨?_, by simp [intOf]; omega⟩; repeat apply Exists.intro; exact ⟨⟨j + 1, _, by omega, by go_num, hb5, ow5⟩, rfl⟩)
          · have hd7 : decide ((j : Int) < (N : Int)) = false := by simp; omega
            clear ow4
            go_wp2
            first
              | exact ⟨⟨t + 1, by omega, by go_num, hb4⟩, by simp [intOf]; omega⟩
              | (refine ⟨?_, by simp [intOf]; omega⟩; repeat apply Exists.intro; exact ⟨⟨t + 1, by omega, by go_num, hb4⟩, rfl⟩)
      · have hd : decide ((t : Int) < 2) = false := by simp; omega
        go_wp2_with (go_at_call 8; (with_reducible refine (FX.out _ hb).mono ?_); rintro e w' ⟨rfl, gg⟩)
        go_ret
        exact ⟨rfl, gg⟩
end Go.Proofs.Ytkclbcfodngdkaa
