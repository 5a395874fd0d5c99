/- Hits of a machine in a text: the first from a place on, all of them: what the calls return; nothing that was there turns. Conditions: the machine lies in memory. -/
import Derived.Test.YtdmajbdgjjmlkaaLon
namespace Go.Proofs.Ytdmajbdgjjmlkaa
open Go.RowKit
set_option linter.unusedVariables false
set_option linter.unusedSimpArgs false

theorem Mac.lon_le (M : Mac) : ∀ (s : Bs) (i past now B : Nat), past ≤ B → i + s.length ≤ B → M.lon s i past now ≤ B
  | [], i, past, now, B, h, _ => h
  | b :: s, i, past, now, B, h, hl => by
    rw [Mac.lon]
    split
    · exact h
    · rw [List.length_cons] at hl
      refine M.lon_le s _ _ _ B ?_ (by omega)
      split
      · omega
      · exact h
theorem Mac.hit_some (M : Mac) : ∀ (s : Bs) (i : Nat) (p : Nat × Nat), M.hit s i = some p → i ≤ p.1 ∧ p.1 < p.2 ∧ p.2 ≤ i + s.length
  | [], i, p, h => by cases h
  | b :: s, i, p, h => by
    rw [Mac.hit] at h
    split at h
    · next hc =>
      cases h
      exact ⟨Nat.le_refl _, hc, M.lon_le _ _ _ _ _ (by omega) (Nat.le_refl _)⟩
    · obtain ⟨a, b, c⟩ := M.hit_some s (i + 1) p h
      rw [List.length_cons]
      exact ⟨by omega, b, by omega⟩
def Mac.hitI (M : Mac) (s : Bs) (i : Int) : Option (Nat × Nat) := if i < 0 ∨ 256 < s.length then none else M.hitF s i.toNat
def hitV : Option (Nat × Nat) → Value
  | none => .tuple #[.int .i64 0, .int .i64 0, .bool false]
  | some p => .tuple #[.int .i64 (p.1 : Nat), .int .i64 (p.2 : Nat), .bool true]
set_option maxRecDepth 100000 in
set_option maxHeartbeats 4000000 in
theorem hit_any (n0 p : Nat) (M : Mac) (w : World) (h : IsM n0 p M w) (hM : Mok M) (s : ByteArray) (i : Int) : Calls Try.prog 18 #[.pointer (some ⟨p, 0, none⟩), .string s, .int .i64 i] w fun e w' => e = .returned (hitV (M.hitI s.data.toList i)) ∧ Below w.heap.size w w' := by
  have hlen : s.data.toList.length = s.size := Array.length_toList
  unfold Mac.hitI
  rw [hlen]
  by_cases hi : i < 0
  · rw [if_pos (.inl hi)]
    have hd : decide (i < 0) = true := decide_eq_true hi
    clear h hM hlen
    go_enter Try.func18, Try.ntmps18
    go_wp2
    exact bodyPost_ret (by simp [results, Try.results18, go_sem]; rfl) rfl ⟨rfl, Below.refl _ _⟩
  · by_cases hs : 256 < s.size
    · rw [if_pos (.inr hs)]
      have hsi : (256 : Int) < (s.size : Int) := by omega
      clear h hM hlen hs
      go_enter Try.func18, Try.ntmps18
      go_wp2
      exact bodyPost_ret (by simp [results, Try.results18, go_sem]; rfl) rfl ⟨rfl, Below.refl _ _⟩
    · rw [if_neg (by omega)]
      have hsi : ¬ (256 : Int) < (s.size : Int) := by omega
      obtain ⟨k, rfl⟩ := Int.eq_ofNat_of_zero_le (show 0 ≤ i by omega)
      rw [Int.toNat_natCast]
      obtain ⟨T, hT⟩ : ∃ T, T = M.hitF s.data.toList k := ⟨_, rfl⟩
      rw [← hT]
      have HT : Hid (M.hit (s.data.toList.drop k) k = T) := Lib.hid hT.symm
      have LN := Lib.hid (fun w1 (hb : Below w.heap.size w w1) j (hj : j ≤ s.size) => lon_any n0 p M w1 (h.of_below hb) hM s j hj (by omega))
      have HL := Lib.hid hlen
      have HB0 : Hid (Below w.heap.size w w) := Lib.hid (Below.refl _ _)
      have HS : Hid (s.size ≤ 256) := Lib.hid (by omega)
      clear h hM hlen hs hT
      go_enter Try.func18, Try.ntmps18
      go_wp2
      go_loopw [9, 10] (fun i u wr => ∃ j : Nat, i = .int .i64 (j : Nat) ∧ Below w.heap.size w wr ∧ Hid (M.hit (s.data.toList.drop j) j = T)) (fun i _ _ => s.size - (intOf i).toNat)
      case atStart => exact ⟨k, rfl, HB0.out, HT⟩
      case round =>
        obtain ⟨j, rfl, hbl, hT⟩ := hrel
        by_cases hlt : j < s.size
        · have hji : (j : Int) < (s.size : Int) := by omega
          have hlt' : j < s.data.toList.length := by rw [HL.out]; exact hlt
          have hd := List.drop_eq_getElem_cons hlt'
          have LJ := Lib.hid (LN.out wr hbl j (by omega))
          have hle := M.lon_le (s.data.toList.drop j) j j M.beg 256 (by have := HS.out; omega) (by rw [List.length_drop, HL.out]; have := HS.out; omega)
          have hT2 : (if j < M.lon (s.data.toList.drop j) j j M.beg then some (j, M.lon (s.data.toList.drop j) j j M.beg) else M.hit (s.data.toList.drop (j + 1)) (j + 1)) = T := by
            rw [← hT.out, hd, Mac.hit]
          generalize M.lon (s.data.toList.drop j) j j M.beg = N at *
          have HB := Lib.hid hbl
          have HLT := Lib.hid hlt
          by_cases hN : j < N
          · have hNi : (j : Int) < (N : Int) := by omega
            rw [if_pos hN] at hT2
            have HT2 := Lib.hid hT2
            clear hT hd hlt' hT2 hbl hlt hN hle
            go_wp2_with (go_at_call 39; (with_reducible refine LJ.out.mono ?_); rintro e w1 ⟨rfl, hb1⟩)
            refine bodyPost_ret (v := hitV (some (j, N))) (by simp [results, Try.results18, go_sem]; rfl) rfl ⟨by rw [← HT2.out], HB.out.trans (hb1.mono HB.out.size)⟩
          · have hNi : ¬ (j : Int) < (N : Int) := by omega
            rw [if_neg hN] at hT2
            have HT2 := Lib.hid hT2
            clear hT hd hlt' hT2 hbl hlt hN hle
            go_wp2_with (go_at_call 39; (with_reducible refine LJ.out.mono ?_); rintro e w1 ⟨rfl, hb1⟩)
            exact ⟨⟨j + 1, by go_num, HB.out.trans (hb1.mono HB.out.size), HT2⟩, by simp [intOf]; omega⟩
        · have hji : ¬ (j : Int) < (s.size : Int) := by omega
          have hfin : Hid (T = none) := Lib.hid (by rw [← hT.out, List.drop_eq_nil_of_le (by rw [HL.out]; omega), Mac.hit])
          have HB := Lib.hid hbl
          clear hT hbl hlt
          go_wp2
          refine bodyPost_ret (v := hitV none) (by simp [results, Try.results18, go_sem]; rfl) rfl ⟨by rw [hfin.out], HB.out⟩
end Go.Proofs.Ytdmajbdgjjmlkaa
