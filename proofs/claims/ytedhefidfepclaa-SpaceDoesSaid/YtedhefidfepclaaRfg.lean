/- The document's memory: a new one. No conditions. -/
import Derived.Test.YtedhefidfepclaaRfe
namespace Go.Proofs.Ytedhefidfepclaa
open Go.RowKit Go.Maps
set_option linter.unusedVariables false
theorem Try.info9 : (Try.prog.info? 9).map (fun i => (i.zero, i.size, i.bytes)) = some (some (.string ⟨#[]⟩), 1, 16) := by kernel_rfl

/-- the document's memory of F frames, new, with the bytes B, at p -/
def NewR (w w' : World) (p F : Nat) (B : Bts) : Prop := ∃ g cap, IsR w' p g cap F B ∧ Below w.heap.size w w' ∧ w.heap.size ≤ p ∧ w.heap.size ≤ g
set_option maxHeartbeats 1000000 in
theorem rnew_no (F : Int) (w : World) (h : ¬ (1 ≤ F ∧ F ≤ 160)) :
    Calls Try.prog 31 #[.int .i64 F] w fun e w' => e = .returned (.tuple #[.pointer none, .int .i64 80]) ∧ w = w' := by
  by_cases a : F < 1
  · go_enter Try.func31, Try.ntmps31
    go_wp2
    go_ret2
    exact ⟨rfl, rfl⟩
  · have b : 160 < F := by omega
    go_enter Try.func31, Try.ntmps31
    go_wp2
    go_ret2
    exact ⟨rfl, rfl⟩
theorem frameB_nb (F j : Nat) (hj : j < F) : frameB (nb (256 * F)) j = nb 256 := by
  unfold frameB nb
  rw [List.drop_replicate, List.take_replicate]
  congr 1; omega
/-- a row of texts all alike, at the field of block P -/
structure Mk (w0 : World) (P k : Nat) (Z : ByteArray) (ao : Option Addr) (cc : Nat) (W : World) : Prop where
  blk : W.heap[P]? = some (.cells #[.slice ao k cc] 94 (0, 0))
  own : W.ownsRow P 9 1 (.slice ao k cc) k (List.replicate k (Value.string Z))
  bel : Below P w0 W
  lt : P < W.heap.size
theorem Mk.next {w0 : World} {P k : Nat} {Z : ByteArray} {ao : Option Addr} {cc : Nat} {W W2 : World} (h : Mk w0 P k Z ao cc W) (hk : k ≤ 160) (hb : Below W.heap.size W W2) :
    ∃ ao2 c2 w7, (Builtin.append_ #[45, 45] 45 #[.slice ao k cc, .slice (some ⟨W2.heap.size, 0, none⟩) 1 1]).run Try.prog (W2.alloc (.cells #[.string Z] 9)) = .ok (.slice ao2 (k + 1) c2) w7 ∧
      w7.frozen? ⟨P, 0, none⟩ = false ∧ w7.cell? ⟨P, 0, none⟩ = some (.slice ao k cc) ∧ Mk w0 P (k + 1) Z ao2 c2 (w7.setCell ⟨P, 0, none⟩ (.slice ao2 (k + 1) c2)) := by
  obtain ⟨i0, hi1, hi2, hi3, hi4⟩ := info_parts Try.info9
  obtain ⟨W3, hW3⟩ : ∃ W3, W3 = W2.alloc (.cells #[.string Z] 9) := ⟨_, rfl⟩
  have hlt2 : P < W2.heap.size := Nat.lt_of_lt_of_le h.lt hb.size
  have b23 : Below W2.heap.size W2 W3 := by rw [hW3]; exact (Below.refl _ W2).alloc (Nat.le_refl _) _
  have b3 : Below W.heap.size W W3 := hb.trans (b23.mono hb.size)
  have hx : W3.heap[W2.heap.size]? = some (.cells #[.string Z] 9 (0, 0)) := by rw [hW3]; exact heap_alloc_last W2 _
  have hblk : W3.heap[P]? = some (.cells #[.slice ao k cc] 94 (0, 0)) := (b3.block P h.lt).trans h.blk
  have ho : W3.ownsRow P 9 1 (.slice ao k cc) k (List.replicate k (Value.string Z)) := h.own.kept (show W.grownBy W3 none from ⟨b3.os, b3.tape, b3.output, b3.size, fun i hi _ => b3.block i hi⟩) (by cases (Value.slice ao k cc).ownBlock <;> simp)
  obtain ⟨v', w7, hr, hown, hg, hnn, -⟩ := run_append_own_at (P := Try.prog) (w := W3) P 45 45 9 i0 (.string ⟨#[]⟩) 1 16 Try.underlying45 hi1 hi2 hi3 hi4 rfl (by decide) _ _ _ ho ⟨W2.heap.size, 0, none⟩ 1 1 [.string Z] rfl (fun j u hj => by
    rw [addr_at, cell_of_row W3 _ _ _ _ _ hx]
    simpa using hj) (by intro u hu; simp at hu; subst hu; rfl) (by unfold maxLen; omega) (by omega) (Nat.le_of_lt (Nat.lt_of_lt_of_le h.lt b3.size))
  have hown2 : w7.ownsRow P 9 1 v' (k + 1) (List.replicate (k + 1) (Value.string Z)) := by
    rw [List.replicate_succ']; exact hown
  have hne : ∀ j, (Value.slice ao k cc).ownBlock = some j → j ≠ P := fun j e hj => by
    subst hj
    rcases ho.2 with ⟨e2, _⟩ | ⟨g', c', cur, e2, _, hg', _⟩
    · injection e2 with e2; subst e2; simp [Value.ownBlock] at e
    · injection e2 with e2
      subst e2
      have : g' = j := by simpa [Value.ownBlock] using e
      subst this
      rw [hblk] at hg'; cases hg'
  have hblk7 : w7.heap[P]? = some (.cells #[.slice ao k cc] 94 (0, 0)) := (hg.block P (Nat.lt_of_lt_of_le h.lt b3.size) (fun e => hne P e.symm rfl)).trans hblk
  obtain ⟨ao2, c2, rfl⟩ : ∃ ao2 c2, v' = .slice ao2 (k + 1) c2 := by
    rcases hown2.2 with ⟨e, _⟩ | ⟨g', c', _, e, _⟩
    · rw [e] at hnn; simp at hnn
    · exact ⟨_, _, e⟩
  rw [← hW3]
  refine ⟨ao2, c2, w7, hr, by simp [World.frozen?, hblk7], by rw [cell_of_row _ _ _ _ _ _ hblk7]; rfl, ?_⟩
  have hgP : ∀ g', ao2 = some ⟨g', 0, none⟩ → w7.heap[g']? ≠ some (.cells #[.slice ao k cc] 94 (0, 0)) := fun g' e hx => by
    subst e
    rcases hown2.2 with ⟨e, _⟩ | ⟨g2, c', cur, e2, _, hg', _⟩
    · cases e
    · injection e2 with e2; injection e2 with e2; injection e2 with e2
      subst e2
      rw [hx] at hg'; cases hg'
  refine ⟨block_setCell hblk7, ?_, ?_, ?_⟩
  · rcases hown2.2 with ⟨e, _⟩ | ⟨g2, c', cur, e2, hb', hg', hz⟩
    · rw [e] at hnn; simp at hnn
    · refine ⟨hown2.1, .inr ⟨g2, c', cur, e2, hb', ?_, hz⟩⟩
      rw [block_setCell_other (fun e => by subst e; rw [hblk7] at hg'; cases hg')]
      exact hg'
  · have b5 : Below P w0 w7 := (h.bel.trans (b3.mono (Nat.le_of_lt h.lt))).grown hg (Nat.le_of_lt (Nat.lt_of_lt_of_le h.lt b3.size)) (fun j e => by
      rcases ho.2 with ⟨e2, _⟩ | ⟨g', c', cur, e2, hb', _⟩
      · injection e2 with e2; subst e2; simp [Value.ownBlock] at e
      · injection e2 with e2
        subst e2
        have : g' = j := by simpa [Value.ownBlock] using e
        omega)
    exact b5.setCell (p := ⟨P, 0, none⟩) (Nat.le_refl _) _
  · rw [show (w7.setCell ⟨P, 0, none⟩ (.slice ao2 (k + 1) c2)).heap.size = w7.heap.size by simp [World.setCell]]
    exact block_lt hblk7
set_option maxRecDepth 20000 in
set_option maxHeartbeats 2000000 in
theorem rnew_any (F : Nat) (w : World) (h : 1 ≤ F ∧ F ≤ 160) :
    Calls Try.prog 31 #[.int .i64 (F : Int)] w fun e w' => ∃ p, e = .returned (.tuple #[.pointer (some ⟨p, 0, none⟩), .int .i64 0]) ∧ NewR w w' p F (nb (256 * F)) := by
  obtain ⟨h1, h2⟩ := h
  obtain ⟨P, hP⟩ : ∃ P, P = w.heap.size := ⟨_, rfl⟩
  obtain ⟨w1, hw1⟩ : ∃ w1, w1 = w.alloc (.cells #[.slice none 0 0] 94) := ⟨_, rfl⟩
  obtain ⟨Z, hZ⟩ : ∃ Z, Z = ofL (nb 256) := ⟨_, rfl⟩
  have m1 : Mk w P 0 Z none 0 w1 := by
    subst hw1 hP
    exact ⟨block_new _ _, ⟨by simp, .inl ⟨rfl, by simp⟩⟩, (Below.refl _ w).alloc (Nat.le_refl _) _, by simp⟩
  have kn : Hid (∀ W, Calls Try.prog 59 #[.int .i64 256] W fun e w' => e = .returned (.string Z) ∧ Below W.heap.size W w') := fun W => by rw [hZ]; exact rnoughts_any 256 (by omega) W
  have HP := Lib.hid (And.intro hP (And.intro hZ m1))
  go_enter Try.func31, Try.ntmps31
  go_wp2
  rw [← hw1, ← hP]
  clear hw1 hP hZ
  go_loopw [5] (fun i wr => ∃ (k cc : Nat) (ao : Option Addr), k ≤ F ∧ i = .int .i64 (k : Int) ∧ Mk w P k Z ao cc wr) (fun i _ => F - (intOf i).toNat)
  case atStart => exact ⟨0, 0, none, Nat.zero_le _, rfl, HP.out.2.2⟩
  case round =>
    obtain ⟨k, cc, ao, hk, rfl, hm⟩ := hrel
    have c0 : wr.cell? ⟨P, 0, none⟩ = some (.slice ao k cc) := by rw [cell_of_row _ _ _ _ _ _ hm.blk]; rfl
    have HM := Lib.hid hm
    clear hm
    by_cases a0 : k < F
    · have x0 : wr.drew.cell? ⟨P, 0, none⟩ = some (.slice ao k cc) := c0
      have CB : Hid (∀ W2, Below wr.heap.size wr W2 → W2.cell? ⟨P, 0, none⟩ = some (.slice ao k cc)) := fun W2 hb => by rw [cell_of_row _ _ _ _ _ _ ((hb.block P HM.out.lt).trans HM.out.blk)]; rfl
      have hk160 : Hid (k ≤ 160) := by show k ≤ 160; omega
      go_wp2
      go_region_law (first | (go_simp; go_at_call 59; (refine (kn.out _).mono ?_); rintro e w3 ⟨rfl, h3⟩; have h4 : Below wr.heap.size wr w3 := ⟨h3.os, h3.tape, h3.output, h3.size, h3.block⟩; obtain ⟨ao2, c2, w7, hr, hf7, hc7, hM7⟩ := HM.out.next hk160.out (W2 := w3) h4; have HR := Lib.hid hr; have c3 := CB.out w3 h4; have c5 := CB.out _ (h4.alloc h4.size (.cells #[.string Z] 9)); clear h4; have HM7 := Lib.hid hM7; clear hr h3 hM7) | (refine step_append_run (by rfl) _ _ 45 (by rfl) _ _ _ w7 (by rfl) (by rfl) HR.out ?_))
      all_goals (go_wp2; exact ⟨⟨k + 1, c2, ao2, a0, rfl, HM7.out⟩, by simp [intOf]; omega⟩)
    · obtain rfl : k = F := by omega
      go_wp2
      go_ret2
      obtain ⟨hP, hZ, _⟩ := HP.out
      obtain ⟨hblk, hown, hbel, hlt⟩ := HM.out
      rcases hown.2 with ⟨e, _⟩ | ⟨g, c', cur, e, hb', hg', hnc, _, hcs, htk⟩
      · injection e with _ e2; omega
      · injection e with e1 _ e3
        subst e1 e3
        rw [Nat.mul_one] at hcs htk
        refine ⟨P, rfl, g, cc, ⟨hblk, ⟨cur, hg', hcs, fun j hj => ?_⟩, by rw [nb_len], hnc, h1, h2⟩, by rw [← hP]; exact hbel, by omega, by omega⟩
        rw [frameB_nb _ _ hj, ← hZ]
        have : (cur.toList.take k)[j]? = (List.replicate k (Value.string Z))[j]? := by rw [htk]
        rw [List.getElem?_take, if_pos hj, List.getElem?_replicate, if_pos hj, Array.getElem?_toList] at this
        exact this
end Go.Proofs.Ytedhefidfepclaa
