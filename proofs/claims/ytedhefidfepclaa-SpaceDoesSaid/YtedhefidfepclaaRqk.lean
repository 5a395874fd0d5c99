/- The law's look at a space and the document's: the same. No conditions. -/
import Derived.Test.YtedhefidfepclaaRqj
namespace Go.Proofs.Ytedhefidfepclaa
open Go.RowKit Go.Maps
set_option linter.unusedVariables false
set_option linter.unusedSimpArgs false

set_option maxRecDepth 20000 in
set_option maxHeartbeats 8000000 in
theorem same_any (w : World) (s : SpAt) (G : Nat → Prop) (q : QAt) (B : Bts) (ns : List Nat) (ps : List Pg) (h : IsS w s B ns ps) (hq : IsQ w G q B ns ps) :
    Calls Try.prog 19 #[.pointer (some ⟨s.p, 0, none⟩), .pointer (some ⟨q.y, 0, none⟩)] w fun e w' => e = .returned (.bool true) ∧ Below w.heap.size w w' := by
  have k25 := smem_any w s B ns ps h
  have c0 := hq.cells.1
  have cm := hq.mem.cell
  have KN : Hid (∀ (w0 : World), w0 = w → ∀ W, Below w.heap.size w0 W → ∀ p : Int, Calls Try.prog 21 #[.pointer (some ⟨s.p, 0, none⟩), .int .i64 p] W fun e w1 => ∃ a n c, e = .returned (.slice a n c) ∧ n ≤ 16 ∧
      Hid (Calls Try.prog 52 #[.pointer (some ⟨q.y, 0, none⟩), .int .i64 p] w1 fun e w2 => ∃ v, e = .returned v ∧
        Hid (Calls Try.prog 51 #[.slice a n c, v] w2 fun e w3 => e = .returned (.bool true) ∧ Hid (Scr w w3 a n)))) := Lib.hid fun w0 e W hW p => look_nest w s G q B ns ps h hq W (by rw [← e]; rw [e] at hW ⊢; exact hW) p
  have K48 : Hid (∀ W, Below w.heap.size w W → Calls Try.prog 48 #[.pointer (some ⟨s.pm, 0, none⟩)] W fun e w' => e = .returned (.int .i64 (ps.length : Int)) ∧ W = w') := Lib.hid fun W hW => frames_any _ _ _ _ _ W (h.below hW).mem
  have K49 : Hid (∀ W, Below w.heap.size w W → ∀ i, i < ps.length → Calls Try.prog 49 #[.pointer (some ⟨s.pm, 0, none⟩), .int .i64 (i : Int)] W fun e w' => e = .returned (.tuple #[.string (ofL (frameB B i)), .int .i64 0]) ∧ W = w') := Lib.hid fun W hW i hi => by
    have k := frame_any _ _ _ _ _ W (h.below hW).mem (i : Int)
    rw [if_pos (show isF ps.length (i : Int) from ⟨by omega, by omega⟩)] at k
    exact k
  have K50 : Hid (∀ W, Below w.heap.size w W → ∀ i, i < ps.length → Calls Try.prog 50 #[.pointer (some ⟨q.m, 0, none⟩), .int .i64 (i : Int)] W fun e w' => e = .returned (.tuple #[.string (ofL (frameB B i)), .int .i64 0]) ∧ W = w') := Lib.hid fun W hW i hi => by
    have k := rframe_any _ _ _ _ _ W (hq.below hW).mem (i : Int)
    rw [if_pos (show isF ps.length (i : Int) from ⟨by omega, by omega⟩)] at k
    exact k
  have PC : Hid (∀ W, Below w.heap.size w W → W.cell? ⟨q.y, 0, none⟩ = some (.pointer (some ⟨q.m, 0, none⟩)) ∧ W.cell? ⟨q.m, 0, none⟩ = some (.slice (some ⟨q.g, 0, none⟩) ps.length q.cap)) := Lib.hid fun W hW => ⟨cell_below c0 hW, cell_below cm hW⟩
  have HR : Hid (Below w.heap.size w w) := Lib.hid (Below.refl _ _)
  have HRd : Hid (Below w.heap.size w w.drew) := Lib.hid ⟨rfl, rfl, rfl, Nat.le_refl _, fun _ _ => rfl⟩
  have hF : ps.length ≤ 128 := by
    rw [h.sum]
    have := bnd_le16 ns (fun x hx => (h.each x hx).2) ns.length
    have h9 := h.few
    unfold bnd at this
    rw [List.take_length] at this
    omega
  have k48 := K48.out w HR.out
  have k48d := K48.out w.drew HRd.out
  have hS0 := PC.out w HR.out
  have hS1 := PC.out w.drew HRd.out
  clear h hq c0 cm
  generalize ps.length = F at *
  go_enter Try.func19, Try.ntmps19
  go_wp2_with (go_at_call 25; refine k25.mono ?_; rintro e _ ⟨rfl, rfl⟩)
  go_region_held3 (fun W => W.cell? ⟨q.y, 0, none⟩ = some (.pointer (some ⟨q.m, 0, none⟩)) ∧ W.cell? ⟨q.m, 0, none⟩ = some (.slice (some ⟨q.g, 0, none⟩) F q.cap)) (with_reducible first | exact hS0 | exact hS1) (first
    | (go_at_call 48; with_reducible refine k48.mono ?_; rintro e _ ⟨rfl, rfl⟩)
    | (go_at_call 48; with_reducible refine k48d.mono ?_; rintro e _ ⟨rfl, rfl⟩))
  all_goals go_wp2
  go_loopw [6] (fun iv wr => ∃ i : Nat, i ≤ F ∧ iv = .int .i64 (i : Int) ∧ Below w.heap.size w wr) (fun iv _ => F - (intOf iv).toNat)
  case atStart => exact ⟨0, Nat.zero_le _, rfl, HRd.out⟩
  case round =>
    obtain ⟨i, hin, rfl, hB⟩ := hrel
    have hS := PC.out wr hB
    obtain ⟨d0, d1⟩ := hS
    by_cases a : i < F
    · have aI : (i : Int) < (F : Int) := by omega
      have aI0 : (0 : Int) ≤ (i : Int) := by omega
      have k49 := K49.out wr hB i a
      have k50 := K50.out wr hB i a
      have HB := Lib.hid hB
      obtain ⟨fs, hfs⟩ : ∃ fs, fs = ofL (frameB B i) := ⟨_, rfl⟩
      rw [← hfs] at k49 k50
      clear hfs hB hS0 hS1 k48 k48d
      go_wp2_with (first
        | (go_at_call 49; refine k49.mono ?_; rintro e _ ⟨rfl, rfl⟩)
        | (go_at_call 50; refine k50.mono ?_; rintro e _ ⟨rfl, rfl⟩))
      all_goals exact ⟨⟨i + 1, a, by simp, HB.out⟩, by simp [intOf]; omega⟩
    · obtain rfl : i = F := by omega
      have HB := Lib.hid hB
      clear hB hS0 hS1 k48 k48d
      go_wp2
      go_loopw [11] (fun pv wr' => ∃ p : Int, -1 ≤ p ∧ p ≤ 9 ∧ pv = .int .i64 p ∧ Below w.heap.size w wr') (fun pv _ => (9 - intOf pv).toNat)
      case atStart => exact ⟨-1, by omega, by omega, rfl, HB.out⟩
      case round =>
        obtain ⟨p, hp1, hp2, rfl, hB2⟩ := hrel
        by_cases c : p < 9
        · have k := KN.out w rfl wr hB2 p
          have HB2 := Lib.hid hB2
          clear hB2
          go_wp2_with (first
            | (go_at_call 21; refine k.mono ?_; rintro e w1 ⟨ta, tn, tc, rfl, hn, K52⟩)
            | (go_at_call 52; refine K52.out.mono ?_; rintro e w2 ⟨tv, rfl, K51⟩)
            | (go_at_call 51; refine K51.out.mono ?_; rintro e w3 ⟨rfl, HS⟩))
          go_loopw [13] (fun iv wi => ∃ j : Nat, j ≤ tn ∧ iv = .int .i64 (j : Int) ∧ Scr w wi ta tn) (fun iv _ => tn - (intOf iv).toNat)
          case atStart => exact ⟨0, Nat.zero_le _, rfl, HS.out⟩
          case round =>
            obtain ⟨j, hjn, rfl, hs⟩ := hrel
            by_cases d : j < tn
            · have dI : (j : Int) < (tn : Int) := by omega
              have dI0 : (0 : Int) ≤ (j : Int) := by omega
              obtain ⟨g, rfl, ⟨k1, x1, e1⟩, ⟨k2, x2, e2⟩, f1, f2, HX⟩ := hs.at j d
              have HX := Lib.hid HX
              clear hs
              go_wp2
              all_goals exact ⟨⟨j + 1, d, by simp, (HX.out _ _ _ _).out⟩, by simp [intOf]; omega⟩
            · obtain rfl : j = tn := by omega
              have HB3 := Lib.hid hs.1
              clear hs
              go_wp2
              exact ⟨⟨p + 1, by omega, by omega, by simp, HB3.out⟩, by simp [intOf]; omega⟩
        · have HB2 := Lib.hid hB2
          clear hB2
          go_wp2
          go_ret
          exact ⟨rfl, HB2.out⟩
end Go.Proofs.Ytedhefidfepclaa
