/- The document's reader, call by call, in every state: what each call answers, where the reader then stands, its fault; of all else that was there nothing turns. Conditions: it stands within its bytes, which are at most maxLen. -/
import Derived.Test.YtjehjkibgaeibaaAsk
namespace Go.Proofs.Ytjehjkibgaeibaa
open Go.RowKit
set_option linter.unusedVariables false

/-- the document's reader in memory: its bytes, its place, its fault -/
def XRdr (w : World) (b : Nat) (s : ByteArray) (p : Nat) (e : Int) : Prop := w.heap[b]? = some (.cells #[.string s, .int .i64 (p : Int), .int .i64 e] 35 (0, 0))

theorem XRdr.c0 {w : World} {b : Nat} {s : ByteArray} {p : Nat} {e : Int} (h : XRdr w b s p e) : w.cell? ⟨b, 0, none⟩ = some (.string s) := by rw [cell_of_row w b 0 _ _ _ h]; rfl
theorem XRdr.c1 {w : World} {b : Nat} {s : ByteArray} {p : Nat} {e : Int} (h : XRdr w b s p e) : w.cell? ⟨b, 1, none⟩ = some (.int .i64 (p : Int)) := by rw [cell_of_row w b 1 _ _ _ h]; rfl
theorem XRdr.c2 {w : World} {b : Nat} {s : ByteArray} {p : Nat} {e : Int} (h : XRdr w b s p e) : w.cell? ⟨b, 2, none⟩ = some (.int .i64 e) := by rw [cell_of_row w b 2 _ _ _ h]; rfl
theorem XRdr.f1 {w : World} {b : Nat} {s : ByteArray} {p : Nat} {e : Int} (h : XRdr w b s p e) : w.frozen? ⟨b, 1, none⟩ = false := block_free h
theorem XRdr.f2 {w : World} {b : Nat} {s : ByteArray} {p : Nat} {e : Int} (h : XRdr w b s p e) : w.frozen? ⟨b, 2, none⟩ = false := block_free h
theorem XRdr.lt {w : World} {b : Nat} {s : ByteArray} {p : Nat} {e : Int} (h : XRdr w b s p e) : b < w.heap.size := block_lt h


theorem XRdr.alloc {w : World} {b : Nat} {s : ByteArray} {p : Nat} {e : Int} (h : XRdr w b s p e) (o : Obj) : XRdr (w.alloc o) b s p e := by
  unfold XRdr
  rw [Below.heap_alloc _ _ _ h.lt]; exact h
theorem XRdr.drewN {w : World} {b : Nat} {s : ByteArray} {p : Nat} {e : Int} (h : XRdr w b s p e) (n : Nat) : XRdr (w.drewN n) b s p e := h
theorem XRdr.set1 {w : World} {b : Nat} {s : ByteArray} {p : Nat} {e : Int} (h : XRdr w b s p e) (q : Nat) : XRdr (w.setCell ⟨b, 1, none⟩ (.int .i64 (q : Int))) b s q e := by
  unfold XRdr; rw [block_setCell h]; rfl
theorem XRdr.set2 {w : World} {b : Nat} {s : ByteArray} {p : Nat} {e : Int} (h : XRdr w b s p e) (x : Int) : XRdr (w.setCell ⟨b, 2, none⟩ (.int .i64 x)) b s p x := by
  unfold XRdr; rw [block_setCell h]; rfl
theorem XRdr.kept {w w' : World} {b : Nat} {s : ByteArray} {p : Nat} {e : Int} (h : XRdr w b s p e) {row : Option Nat} (hg : w.grownBy w' row) (hb : some b ≠ row) : XRdr w' b s p e := by
  unfold XRdr
  rw [hg.block b h.lt hb]; exact h
theorem XRdr.below {w w' : World} {b : Nat} {s : ByteArray} {p : Nat} {e : Int} (h : XRdr w b s p e) (hb : Below w.heap.size w w') : XRdr w' b s p e := by
  unfold XRdr
  rw [hb.block b h.lt]; exact h


def XReads (w : World) (b : Nat) (s : ByteArray) (v : Value) (p : Nat) (e : Int) (x : Ending) (w' : World) : Prop := x = .returned v ∧ XRdr w' b s p e ∧ w.grownBy w' (some b)

theorem wrong_any (w : World) (b : Nat) (s : ByteArray) (p : Nat) (e x : Int) (h : XRdr w b s p e) :
    Calls Try.prog 35 #[.pointer (some ⟨b, 0, none⟩), .int .i64 x] w fun y w' => y = .returned (.tuple #[]) ∧ XRdr w' b s p x ∧ w.grownBy w' (some b) := by
  have h2 := h.c2
  have f2 := h.f2
  have H := Lib.hid h
  clear h
  go_enter Try.func35, Try.ntmps35
  go_wp2
  go_end0
  exact ⟨rfl, H.out.set2 _, gr_set (gr_refl _ _) _ _⟩

set_option maxHeartbeats 1000000 in
theorem xnum_any (w : World) (b : Nat) (s : ByteArray) (p : Nat) (e n : Int) (h : XRdr w b s p e) (hp : p ≤ s.size) (hs : s.size ≤ maxLen) :
    Calls Try.prog 19 #[.pointer (some ⟨b, 0, none⟩), .int .i64 n] w (XReads w b s (.int .i64 (numR s p e n).1) (numR s p e n).2.1 (numR s p e n).2.2) := by
  have hs' := hs
  unfold maxLen at hs'
  have h0 := h.c0
  have h1 := h.c1
  have h2 := h.c2
  have f1 := h.f1
  have H := Lib.hid h
  clear h
  by_cases he : e ≠ 0
  · have hv : numR s p e n = (0, p, e) := if_pos he
    rw [hv]
    have hd := bne_iff_ne.2 he
    clear hv he
    go_enter Try.func19, Try.ntmps19
    go_wp2
    go_ret
    exact ⟨rfl, H.out, gr_refl _ _⟩
  · have he' : e = 0 := by omega
    subst he'
    by_cases hw : 1 ≤ n ∧ n ≤ 8
    · obtain ⟨w1, w8⟩ := hw
      have d1 : decide (n < 1) = false := by simp; omega
      have d2 : decide (8 < n) = false := by simp; omega
      by_cases hm : ((s.size - p : Nat) : Int) < n
      · have hv : numR s p 0 n = (0, p, 10) := by unfold numR; rw [if_neg he, if_neg (by omega), if_pos hm]
        rw [hv]
        clear hv
        have hm2 : (s.size : Int) - p < n := by omega
        go_enter Try.func19, Try.ntmps19
        go_wp2_with fail
        go_quiet (fail)
        go_wp2_with (go_at_call 35; refine (wrong_any _ _ _ _ _ _ (H.out.drewN _)).mono ?_; rintro x w1 ⟨rfl, hr, hg⟩)
        go_ret
        exact ⟨rfl, hr, gr_trans (gr_drewN (gr_refl _ _) _) hg⟩
      · have hv : numR s p 0 n = (numS ((s.data.toList.drop p).take n.toNat), p + n.toNat, 0) := by unfold numR; rw [if_neg he, if_neg (by omega), if_neg hm]
        rw [hv]
        clear hv
        obtain ⟨m, rfl⟩ := Int.eq_ofNat_of_zero_le (show 0 ≤ n by omega)
        rw [Int.toNat_natCast]
        have hm2 : ¬ (s.size : Int) - p < m := by omega
        have HL := Lib.hid (ext_list s p m)
        have HS : Hid ((s.extract p (p + m)).size ≤ maxLen) := by
          unfold Hid; rw [ext_size _ _ _ (by omega)]; unfold maxLen; omega
        go_enter Try.func19, Try.ntmps19
        go_wp2_with fail
        go_quiet (fail)
        go_wp2_with fail
        go_quiet ((go_at_call 36; exact Calls.quiet_of_same ((rnumber_any _ _ HS.out).mono (fun _ _ h => ⟨h.1, h.2.symm⟩))))
        go_wp2
        go_ret
        exact ⟨ret_i (by rw [← HL.out]), ((H.out.drewN _).set1 (p + m)).drewN _, gr_drewN (gr_set (gr_drewN (gr_refl _ _) _) _ _) _⟩
    · have hv : numR s p 0 n = (0, p, 13) := by unfold numR; rw [if_neg he, if_pos hw]
      rw [hv]
      clear hv
      by_cases h1 : n < 1
      · go_enter Try.func19, Try.ntmps19
        go_wp2_with (go_at_call 35; refine (wrong_any _ _ _ _ _ _ H.out).mono ?_; rintro x w1 ⟨rfl, hr, hg⟩)
        go_ret
        exact ⟨rfl, hr, hg⟩
      · have h8 : 8 < n := by omega
        clear hw
        go_enter Try.func19, Try.ntmps19
        go_wp2_with (go_at_call 35; refine (wrong_any _ _ _ _ _ _ H.out).mono ?_; rintro x w1 ⟨rfl, hr, hg⟩)
        go_ret
        exact ⟨rfl, hr, hg⟩

set_option maxHeartbeats 1000000 in
theorem xbytes_any (w : World) (b : Nat) (s : ByteArray) (p : Nat) (e n : Int) (h : XRdr w b s p e) (hp : p ≤ s.size) (hs : s.size ≤ maxLen) :
    Calls Try.prog 23 #[.pointer (some ⟨b, 0, none⟩), .int .i64 n] w (XReads w b s (.string (bytesR s p e n).1) (bytesR s p e n).2.1 (bytesR s p e n).2.2) := by
  have hs' := hs
  unfold maxLen at hs'
  have h0 := h.c0
  have h1 := h.c1
  have h2 := h.c2
  have f1 := h.f1
  have H := Lib.hid h
  clear h
  by_cases he : e ≠ 0
  · have hv : bytesR s p e n = (⟨#[]⟩, p, e) := if_pos he
    rw [hv]
    have hd := bne_iff_ne.2 he
    clear hv he
    go_enter Try.func23, Try.ntmps23
    go_wp2
    go_ret
    exact ⟨rfl, H.out, gr_refl _ _⟩
  · have he' : e = 0 := by omega
    subst he'
    by_cases hw : n < 0
    · have hv : bytesR s p 0 n = (⟨#[]⟩, p, 13) := by unfold bytesR; rw [if_neg he, if_pos hw]
      rw [hv]
      clear hv
      go_enter Try.func23, Try.ntmps23
      go_wp2_with (go_at_call 35; refine (wrong_any _ _ _ _ _ _ H.out).mono ?_; rintro x w1 ⟨rfl, hr, hg⟩)
      go_ret
      exact ⟨rfl, hr, hg⟩
    · by_cases hm : ((s.size - p : Nat) : Int) < n
      · have hv : bytesR s p 0 n = (⟨#[]⟩, p, 10) := by unfold bytesR; rw [if_neg he, if_neg hw, if_pos hm]
        rw [hv]
        clear hv
        have hm2 : (s.size : Int) - p < n := by omega
        go_enter Try.func23, Try.ntmps23
        go_wp2_with fail
        go_quiet (fail)
        go_wp2_with (go_at_call 35; refine (wrong_any _ _ _ _ _ _ (H.out.drewN _)).mono ?_; rintro x w1 ⟨rfl, hr, hg⟩)
        go_ret
        exact ⟨rfl, hr, gr_trans (gr_drewN (gr_refl _ _) _) hg⟩
      · have hv : bytesR s p 0 n = (s.extract p (p + n.toNat), p + n.toNat, 0) := by unfold bytesR; rw [if_neg he, if_neg hw, if_neg hm]
        rw [hv]
        clear hv
        obtain ⟨m, rfl⟩ := Int.eq_ofNat_of_zero_le (show 0 ≤ n by omega)
        rw [Int.toNat_natCast]
        have hm2 : ¬ (s.size : Int) - p < m := by omega
        go_enter Try.func23, Try.ntmps23
        go_wp2_with fail
        go_quiet (fail)
        go_wp2_with fail
        go_quiet (fail)
        go_wp2
        go_ret
        exact ⟨rfl, ((H.out.drewN _).set1 (p + m)).drewN _, gr_drewN (gr_set (gr_drewN (gr_refl _ _) _) _ _) _⟩

set_option maxHeartbeats 2000000 in
theorem xtext_any (w : World) (b : Nat) (s : ByteArray) (p : Nat) (e n : Int) (h : XRdr w b s p e) (hp : p ≤ s.size) (hs : s.size ≤ maxLen) :
    Calls Try.prog 21 #[.pointer (some ⟨b, 0, none⟩), .int .i64 n] w (XReads w b s (.string (textR s p e n).1) (textR s p e n).2.1 (textR s p e n).2.2) := by
  have hs' := hs
  unfold maxLen at hs'
  have HK := headN_num s p
  have hk6 := headN_lt s p
  have h0 := h.c0
  have h1 := h.c1
  have h2 := h.c2
  have f1 := h.f1
  have H := Lib.hid h
  clear h
  by_cases he : e ≠ 0
  · have hv : textR s p e n = (⟨#[]⟩, p, e) := if_pos he
    rw [hv]
    have hd := bne_iff_ne.2 he
    clear hv he HK
    go_enter Try.func21, Try.ntmps21
    go_wp2
    go_ret
    exact ⟨rfl, H.out, gr_refl _ _⟩
  · have he' : e = 0 := by omega
    subst he'
    by_cases hw : n < 0
    · have hv : textR s p 0 n = (⟨#[]⟩, p, 13) := by unfold textR; rw [if_neg he, if_pos hw]
      rw [hv]
      clear hv HK
      go_enter Try.func21, Try.ntmps21
      go_wp2_with (go_at_call 35; refine (wrong_any _ _ _ _ _ _ H.out).mono ?_; rintro x w1 ⟨rfl, hr, hg⟩)
      go_ret
      exact ⟨rfl, hr, hg⟩
    · by_cases hm : s.size - p < 2
      · have hv : textR s p 0 n = (⟨#[]⟩, p, 10) := by unfold textR; rw [if_neg he, if_neg hw, if_pos hm]
        rw [hv]
        clear hv HK
        have hm2 : (s.size : Int) - p < 2 := by omega
        go_enter Try.func21, Try.ntmps21
        go_wp2_with fail
        go_quiet (fail)
        go_wp2_with (go_at_call 35; refine (wrong_any _ _ _ _ _ _ (H.out.drewN _)).mono ?_; rintro x w1 ⟨rfl, hr, hg⟩)
        go_ret
        exact ⟨rfl, hr, gr_trans (gr_drewN (gr_refl _ _) _) hg⟩
      · have hm2 : ¬ (s.size : Int) - p < 2 := by omega
        have HL := Lib.hid (ext_list s p 2)
        have HS : Hid ((s.extract p (p + 2)).size ≤ maxLen) := by
          unfold Hid; rw [ext_size _ _ _ (by omega)]; unfold maxLen; omega
        have HK := Lib.hid HK
        by_cases hlong : n < (headN s p : Int)
        · have hv : textR s p 0 n = (⟨#[]⟩, p, 11) := by unfold textR; rw [if_neg he, if_neg hw, if_neg hm, if_pos hlong]
          rw [hv]
          clear hv
          generalize headN s p = k at *
          go_enter Try.func21, Try.ntmps21
          go_wp2_with fail
          go_quiet (fail)
          go_wp2_with fail
          have q1 : IntKind.i64.wrap ((p : Int) + 2) = (p : Int) + 2 := IntWalk.i64_in _ (by omega)
          have q2 : ((p : Int) + 2).toNat = p + 2 := by omega
          go_quiet ((go_at_call 36; refine (rnumber_any _ _ HS.out).mono ?_; rintro x w9 ⟨rfl, rfl⟩; first | exact ⟨rfl, _, rfl⟩ | exact ⟨rfl, _, (World.drewN_drewN _ _ _).symm⟩))
          clear q1 q2
          rw [HL.out, HK.out]
          go_wp2_with (go_at_call 35; refine (wrong_any _ _ _ _ _ _ (H.out.drewN _)).mono ?_; rintro x w1 ⟨rfl, hr, hg⟩)
          go_ret
          exact ⟨rfl, hr, gr_trans (gr_drewN (gr_refl _ _) _) hg⟩
        · by_cases hl : s.size - p - 2 < headN s p
          · have hv : textR s p 0 n = (⟨#[]⟩, p, 10) := by unfold textR; rw [if_neg he, if_neg hw, if_neg hm, if_neg hlong, if_pos hl]
            rw [hv]
            clear hv
            generalize headN s p = k at *
            have hl2 : (s.size : Int) - p - 2 < k := by omega
            go_enter Try.func21, Try.ntmps21
            go_wp2_with fail
            go_quiet (fail)
            go_wp2_with fail
            have q1 : IntKind.i64.wrap ((p : Int) + 2) = (p : Int) + 2 := IntWalk.i64_in _ (by omega)
            have q2 : ((p : Int) + 2).toNat = p + 2 := by omega
            go_quiet ((go_at_call 36; refine (rnumber_any _ _ HS.out).mono ?_; rintro x w9 ⟨rfl, rfl⟩; first | exact ⟨rfl, _, rfl⟩ | exact ⟨rfl, _, (World.drewN_drewN _ _ _).symm⟩))
            clear q1 q2
            rw [HL.out, HK.out]
            go_wp2_with fail
            go_quiet (fail)
            go_wp2_with (go_at_call 35; refine (wrong_any _ _ _ _ _ _ (H.out.drewN _)).mono ?_; rintro x w1 ⟨rfl, hr, hg⟩)
            go_ret
            exact ⟨rfl, hr, gr_trans (gr_drewN (gr_refl _ _) _) hg⟩
          · have hv : textR s p 0 n = (s.extract (p + 2) (p + (2 + headN s p)), p + (2 + headN s p), 0) := by unfold textR; rw [if_neg he, if_neg hw, if_neg hm, if_neg hlong, if_neg hl]
            rw [hv]
            clear hv
            generalize headN s p = k at *
            have hl2 : ¬ (s.size : Int) - p - 2 < k := by omega
            go_enter Try.func21, Try.ntmps21
            go_wp2_with fail
            go_quiet (fail)
            go_wp2_with fail
            have q1 : IntKind.i64.wrap ((p : Int) + 2) = (p : Int) + 2 := IntWalk.i64_in _ (by omega)
            have q2 : ((p : Int) + 2).toNat = p + 2 := by omega
            go_quiet ((go_at_call 36; refine (rnumber_any _ _ HS.out).mono ?_; rintro x w9 ⟨rfl, rfl⟩; first | exact ⟨rfl, _, rfl⟩ | exact ⟨rfl, _, (World.drewN_drewN _ _ _).symm⟩))
            clear q1 q2
            rw [HL.out, HK.out]
            go_wp2_with fail
            go_quiet (fail)
            go_wp2_with fail
            go_quiet (fail)
            go_wp2
            go_ret
            exact ⟨by rw [show p + (2 + k) - k = p + 2 by omega]; rfl, ((H.out.drewN _).set1 (p + (2 + k))).drewN _, gr_drewN (gr_set (gr_drewN (gr_refl _ _) _) _ _) _⟩

theorem xfault_any (w : World) (b : Nat) (s : ByteArray) (p : Nat) (e : Int) (h : XRdr w b s p e) :
    Calls Try.prog 28 #[.pointer (some ⟨b, 0, none⟩)] w (Quiet w (faultV p e)) := by
  have h1 := h.c1
  have h2 := h.c2
  by_cases he : e = 0
  · subst he
    go_enter Try.func28, Try.ntmps28
    go_wp2
    go_ret2
    exact ⟨rfl, 0, rfl⟩
  · have hv : faultV p e = .tuple #[.int .i64 e, .int .i64 (p : Int)] := if_neg he
    have hd : (e != 0) = true := bne_iff_ne.2 he
    rw [hv]
    go_enter Try.func28, Try.ntmps28
    go_wp2_with fail
    go_quiet (fail)
    go_wp2
    go_ret2
    exact ⟨rfl, _, rfl⟩

theorem xdone_any (w : World) (b : Nat) (s : ByteArray) (p : Nat) (e : Int) (h : XRdr w b s p e) (hp : p ≤ s.size) (hs : s.size ≤ maxLen) :
    Calls Try.prog 30 #[.pointer (some ⟨b, 0, none⟩)] w (Quiet w (doneV s p e)) := by
  have h0 := h.c0
  have h1 := h.c1
  have h2 := h.c2
  by_cases he : e = 0
  · subst he
    by_cases hl : p < s.size
    · have hv : doneV s p 0 = .tuple #[.int .i64 12, .int .i64 (p : Int)] := if_pos ⟨rfl, hl⟩
      rw [hv]
      have hg : (p : Int) < (s.size : Int) := by omega
      go_enter Try.func30, Try.ntmps30
      go_wp2_with fail
      go_quiet (fail)
      go_wp2
      go_quiet (fail)
      go_wp2
      go_ret2
      exact ⟨rfl, _, World.drewN_drewN _ _ _⟩
    · have hv : doneV s p 0 = faultV p 0 := if_neg (fun x => hl x.2)
      rw [hv]
      have hg : ¬ (p : Int) < (s.size : Int) := by omega
      go_enter Try.func30, Try.ntmps30
      go_wp2_with fail
      go_quiet (fail)
      go_wp2_with (go_at_call 28; refine (xfault_any _ _ _ _ _ (h.drewN _)).mono ?_; rintro x w2 ⟨rfl, n2, rfl⟩; rw [faultV0])
      go_ret2
      exact ⟨rfl, _, rfl⟩
  · have hv : doneV s p e = faultV p e := if_neg (fun x => he x.1)
    have hd : (e == 0) = false := beq_eq_false_iff_ne.2 he
    have hf : faultV p e = .tuple #[.int .i64 e, .int .i64 (p : Int)] := if_neg he
    rw [hv]
    have HF := Lib.hid hf
    clear hf hv he
    go_enter Try.func30, Try.ntmps30
    go_wp2_with fail
    go_quiet (fail)
    go_wp2_with (go_at_call 28; refine (xfault_any _ _ _ _ _ (h.drewN _)).mono ?_; rintro x w2 ⟨rfl, n2, rfl⟩; rw [HF.out])
    go_ret2
    exact ⟨by rw [HF.out]; rfl, _, rfl⟩

end Go.Proofs.Ytjehjkibgaeibaa
