/- The frames of a memory as a list of texts, and two such lists compared. Conditions: numbers that a machine holds. -/
import Derived.Test.YtnhfbeehoifddaaFxd
import Derived.StillTailTactics
namespace Go.Proofs.Ytnhfbeehoifddaa
open Go.RowKit Go.Maps
set_option linter.unusedVariables false

theorem Try.info9 : (Try.prog.info? 9).map (fun i => (i.zero, i.size, i.bytes)) = some (some (.string ⟨#[]⟩), 1, 16) := by kernel_rfl
/-- v is a slice of the texts l -/
def SL (W : World) (v : Value) (l : List ByteArray) : Prop :=
  ∃ g cap cur, v = .slice (some ⟨g, 0, none⟩) l.length cap ∧ W.heap[g]? = some (.cells cur 9 (0, 0)) ∧ l.length ≤ cap ∧ ∀ i (hi : i < l.length), cur[i]? = some (.string l[i])
theorem SL.below {W W' : World} {v : Value} {l : List ByteArray} (h : SL W v l) (hb : Below W.heap.size W W') : SL W' v l := by
  obtain ⟨g, cap, cur, h1, h2, h3⟩ := h
  exact ⟨g, cap, cur, h1, (hb.block g (block_lt h2)).trans h2, h3⟩
theorem SL.ch {F : Nat → Prop} {W W' : World} {v : Value} {l : List ByteArray} (h : SL W v l) (hb : Ch F W W') (hF : ∀ k, F k → ∃ cur fr, W.heap[k]? = some (.cells cur 79 fr)) : SL W' v l := by
  obtain ⟨g, cap, cur, h1, h2, h3⟩ := h
  refine ⟨g, cap, cur, h1, (hb.block g (block_lt h2) (fun q => ?_)).trans h2, h3⟩
  obtain ⟨c, fr, e⟩ := hF g q
  rw [h2] at e
  cases e
theorem SL.cell {W : World} {g n cap : Nat} {l : List ByteArray} (h : SL W (.slice (some ⟨g, 0, none⟩) n cap) l) (i : Nat) (hi : i < l.length) : W.cell? ⟨g, i, none⟩ = some (.string l[i]) := by
  obtain ⟨g', cap', cur, h1, h2, h3, h4⟩ := h
  injection h1 with h1
  injection h1 with h1
  injection h1 with h1
  subst h1
  rw [cell_of_row _ _ _ _ _ _ h2]
  exact h4 i hi
theorem SL.own {W : World} {base : Nat} {q : Option Addr} {n cap : Nat} {l : List ByteArray} (h : W.ownsRow base 9 1 (.slice q n cap) n (l.map Value.string)) (hq : q ≠ none) : SL W (.slice q n cap) l ∧ n = l.length := by
  have hl := h.1
  rw [List.length_map, Nat.mul_one] at hl
  rcases h.2 with ⟨e, _⟩ | ⟨g, cap', cur, e, hb, hg, hnc, _, hcs, ht⟩
  · injection e with e; exact absurd e hq
  · injection e with e1 _ e3
    subst e1 e3 hl
    refine ⟨⟨g, cap, cur, rfl, hg, hnc, fun i hi => ?_⟩, rfl⟩
    rw [Nat.mul_one] at ht
    have : (cur.toList.take l.length)[i]? = (l.map Value.string)[i]? := by rw [ht]
    rw [List.getElem?_take, if_pos hi, List.getElem?_map, List.getElem?_eq_getElem hi, Array.getElem?_toList] at this
    exact this
def fbytes (B : Bts) (F : Nat) : List ByteArray := (List.range F).map fun i => ofL (frameB B i)
theorem fbytes_len (B : Bts) (F : Nat) : (fbytes B F).length = F := by simp [fbytes]
theorem fbytes_succ (B : Bts) (k : Nat) : fbytes B (k + 1) = fbytes B k ++ [ofL (frameB B k)] := by simp [fbytes, List.range_succ]
theorem fbytes_get (B : Bts) (F i : Nat) (h : i < F) : (fbytes B F)[i]'(by rw [fbytes_len]; exact h) = ofL (frameB B i) := by simp [fbytes]
set_option maxHeartbeats 2000000 in
theorem same_any (va vb : Value) (l : List ByteArray) (hl : l.length ≤ 160) (w : World) (ha : SL w va l) (hb : SL w vb l) : Calls Try.prog 22 #[va, vb] w fun e w' => e = .returned (.bool true) ∧ Below w.heap.size w w' := by
  obtain ⟨ga, ca, rfl⟩ : ∃ g cap, va = .slice (some ⟨g, 0, none⟩) l.length cap := by obtain ⟨g, cap, _, e, _⟩ := ha; exact ⟨_, _, e⟩
  obtain ⟨gb, cb, rfl⟩ : ∃ g cap, vb = .slice (some ⟨g, 0, none⟩) l.length cap := by obtain ⟨g, cap, _, e, _⟩ := hb; exact ⟨_, _, e⟩
  obtain ⟨n, hn⟩ : ∃ n, n = l.length := ⟨_, rfl⟩
  have H := Lib.hid (And.intro ha (And.intro hb hn))
  rw [← hn] at hl ⊢
  clear ha hb hn
  go_enter Try.func22, Try.ntmps22
  go_wp2
  go_loopw [5] (fun i wr => ∃ k : Nat, k ≤ n ∧ i = .int .i64 (k : Int) ∧ Below w.heap.size w wr) (fun i _ => n - (intOf i).toNat)
  case atStart => exact ⟨0, Nat.zero_le _, rfl, Below.refl _ _⟩
  case round =>
    obtain ⟨k, hk, rfl, hbw⟩ := hrel
    by_cases a0 : k < n
    · have sa := H.out.1.below hbw
      have sb := H.out.2.1.below hbw
      have c1 := sa.cell k (by rw [← H.out.2.2]; exact a0)
      have c2 := sb.cell k (by rw [← H.out.2.2]; exact a0)
      obtain ⟨S, hS⟩ : ∃ S, S = l[k]'(by rw [← H.out.2.2]; exact a0) := ⟨_, rfl⟩
      rw [← hS] at c1 c2
      have HB := Lib.hid hbw
      clear sa sb hS hbw
      go_wp2
      go_quiet (fail)
      go_wp2
      refine ⟨⟨k + 1, a0, rfl, below_drewN HB.out nq⟩, ?_⟩
      have z := a0
      simp [intOf]; omega
    · obtain rfl : k = n := by omega
      go_wp2
      go_ret
      exact ⟨rfl, hbw⟩
set_option maxRecDepth 20000 in
set_option maxHeartbeats 2000000 in
theorem list_any (p g cap F : Nat) (B : Bts) (w : World) (h : IsM w p g cap F B) :
    Calls Try.prog 23 #[.pointer (some ⟨p, 0, none⟩)] w fun e w' => ∃ v, e = .returned v ∧ SL w' v (fbytes B F) ∧ Below w.heap.size w w' := by
  obtain ⟨b0, hb0⟩ : ∃ b0, b0 = w.heap.size := ⟨_, rfl⟩
  obtain ⟨i0, hi1, hi2, hi3, hi4⟩ := info_parts Try.info9
  have hF := h.hi
  have H := Lib.hid (And.intro h hb0)
  have HI := Lib.hid (And.intro hi1 (And.intro hi2 (And.intro hi3 hi4)))
  obtain ⟨w1, hw1⟩ : ∃ w1, w1 = w.alloc (.cells #[] 9) := ⟨_, rfl⟩
  have hb1 : Below b0 w w1 := by rw [hw1, hb0]; exact (Below.refl _ w).alloc (Nat.le_refl _) _
  have ho1 : w1.ownsRow b0 9 1 (.slice (some ⟨b0, 0, none⟩) 0 0) 0 ((fbytes B 0).map Value.string) := by
    rw [hw1, hb0]
    exact ⟨by simp [fbytes], .inr ⟨w.heap.size, 0, #[], rfl, Nat.le_refl _, block_new _ _, Nat.le_refl _, Nat.zero_le _, by simp, by simp [fbytes]⟩⟩
  clear h hi1 hi2 hi3 hi4
  go_enter Try.func23, Try.ntmps23
  go_wp2
  rw [← hw1, ← hb0]
  have HW := Lib.hid (And.intro hb1 (And.intro ho1 hb0))
  clear hb1 ho1 hw1 hb0
  go_loopw [3, 4] (fun v i wr => ∃ (k gg cc : Nat), k ≤ F ∧ i = .int .i64 (k : Int) ∧ v = .slice (some ⟨gg, 0, none⟩) k cc ∧ wr.ownsRow b0 9 1 (.slice (some ⟨gg, 0, none⟩) k cc) k ((fbytes B k).map Value.string) ∧ Below b0 w wr) (fun _ i _ => F - (intOf i).toNat)
  case atStart => exact ⟨0, b0, 0, Nat.zero_le _, rfl, rfl, HW.out.2.1, HW.out.1⟩
  case round =>
    obtain ⟨k, gg, cc, hk, rfl, rfl, hown, hbw⟩ := hrel
    have hm := H.out.1.below (by rw [HW.out.2.2] at hbw; exact hbw)
    have kf := frames_any p g cap F B wr hm
    by_cases a0 : k < F
    · have kr := frame_any p g cap F B wr hm (k : Int)
      rw [if_pos (by unfold isF; omega), Int.toNat_natCast] at kr
      have e1 : (fbytes B (k + 1)).map Value.string = (fbytes B k).map Value.string ++ [.string (ofL (frameB B k))] := by rw [fbytes_succ, List.map_append]; rfl
      obtain ⟨X, hX⟩ : ∃ X, X = ofL (frameB B k) := ⟨_, rfl⟩
      rw [← hX] at kr e1
      have hsz : b0 ≤ wr.heap.size := by have := hbw.size; rw [HW.out.2.2]; exact this
      have HR := Lib.hid (And.intro hown (And.intro hbw (And.intro e1 hsz)))
      have HOW : Hid (∀ j, (Value.slice (some ⟨gg, 0, none⟩) k cc).ownBlock = some j → b0 ≤ j) := fun j e => by
        rcases hown.2 with ⟨e2, _⟩ | ⟨g', _, _, e2, hb, _⟩
        · cases e2
        · injection e2 with e2; injection e2 with e2; injection e2 with e2
          have : gg = j := by simpa [Value.ownBlock] using e
          omega
      clear hown hbw hm e1 hX hsz
      go_wp2_with (first
        | (go_at_call 19; refine kf.mono ?_; rintro e _ ⟨rfl, rfl⟩)
        | (go_at_call 20; refine kr.mono ?_; rintro e _ ⟨rfl, rfl⟩)
        | (at_builtin; refine wpList_append_own_at _ rfl (.tmp 24) (.tmp 26) 41 rfl b0 9 i0 (.string ⟨#[]⟩) 1 16 Try.underlying41 HI.out.1 HI.out.2.1 HI.out.2.2.1 HI.out.2.2.2 rfl (by decide) _ _ _ rfl (HR.out.1.alloc _) ⟨wr.heap.size, 0, none⟩ 1 1 [Value.string X] rfl rfl (cell_one_new _ _ _) (by simp [Value.oneCell']) (by unfold maxLen; omega) (by omega) (by have := HR.out.2.2.2; simp; omega) ?_; intro v' w5 hown' hgrow hnil hloc; (have hb5 : Below b0 w w5 := (HR.out.2.1.alloc HR.out.2.2.2 _).grown hgrow (by have := HR.out.2.2.2; simp; omega) HOW.out); (have HF := Lib.hid (And.intro hown' (And.intro hb5 hnil))); clear hown' hb5 hgrow hnil hloc))
      obtain ⟨o1, o2, o3⟩ := HF.out
      rw [← HR.out.2.2.1] at o1
      obtain ⟨g', c', rfl⟩ : ∃ g' c', v' = .slice (some ⟨g', 0, none⟩) (k + 1) c' := by
        rcases o1.2 with ⟨e, _⟩ | ⟨g', c', _, e, _⟩
        · rw [e] at o3; simp at o3
        · exact ⟨g', c', e⟩
      refine ⟨⟨k + 1, g', c', a0, rfl, rfl, o1, o2⟩, ?_⟩
      have z := a0
      simp [intOf]; omega
    · obtain rfl : k = F := by omega
      have HR := Lib.hid (And.intro hown hbw)
      clear hown hbw hm
      go_wp2_with (go_at_call 19; refine kf.mono ?_; rintro e _ ⟨rfl, rfl⟩)
      go_ret
      have q := HR.out.1
      exact ⟨_, rfl, (SL.own q (by simp)).1, by rw [← HW.out.2.2]; exact HR.out.2⟩
end Go.Proofs.Ytnhfbeehoifddaa
