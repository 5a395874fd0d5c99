/- Noughts, and calls whose answers the document fixes. No conditions. -/
import Derived.Test.YtedhefidfepclaaSpj
import Derived.Test.YtedhefidfepclaaSpb
import Derived.Test.YtedhefidfepclaaSpc
namespace Go.Proofs.Ytedhefidfepclaa
open Go.RowKit Go.Maps
set_option linter.unusedVariables false
set_option linter.unusedSimpArgs false

set_option maxHeartbeats 1000000 in
theorem noughts_any (n : Nat) (hn : n ≤ 4096) (w : World) : Calls Try.prog 27 #[.int .i64 (n : Int)] w fun e w' => e = .returned (.string (ofL (nb n))) ∧ Below w.heap.size w w' := by
  obtain ⟨i0, hi, hz0, hz1, hz2⟩ := info_parts Try.info5
  obtain ⟨w1, h1, h2, h3⟩ := run_makeSlice_full (P := Try.prog) w w.heap.size 97 5 i0 (.int .u8 0) 1 Try.underlying97 hi hz0 hz1 .i64 .i64 n (by omega) (by rw [hz2]; omega) (by unfold maxLen; omega) (Nat.le_refl _)
  have hb1 : Below w.heap.size w w1 := (Below.refl _ w).grown h3 (Nat.le_refl _) (fun j e => by cases e)
  have hrow : RowB 5 w1 w.heap.size n (nb n) := by
    rcases h2.2 with ⟨e, _⟩ | ⟨g', c', cur, e, _, hg', hc1, _, hc3, hc4⟩
    · cases e
    · injection e with e1 _ e3
      injection e1 with e1
      injection e1 with e1
      subst e1 e3
      refine ⟨cur, (0, 0), hg', .inl rfl, by rw [nb_len]; exact Nat.le_refl _, by omega, ?_⟩
      rw [nb_len, ← Nat.mul_one n, hc4]
      unfold madeCells nb
      rw [Nat.mul_one]
      apply List.ext_getElem?
      intro j
      rw [Array.getElem?_toList, Array.getElem?_map, List.getElem?_map, List.getElem?_replicate]
      have e9 : (Value.int IntKind.u8 0).cells = #[.int .u8 0] := rfl
      rw [e9]
      by_cases c : j < n
      · rw [Array.getElem?_range, if_pos c, if_pos c]
        simp only [Option.map_some, List.size_toArray, List.length_cons, List.length_nil, Nat.zero_add, Nat.mod_one]
        rfl
      · rw [if_neg c, Array.getElem?_eq_none (by simp; omega)]; rfl
  have hcv := hrow.string (w' := w1) 0 n n (by rw [nb_len]; omega)
  rw [List.drop_zero, List.take_of_length_le (by rw [nb_len]; exact Nat.le_refl _)] at hcv
  have HB := Lib.hid hb1
  clear hi hz0 hz1 hz2 h2 h3 hrow hb1
  go_enter Try.func27, Try.ntmps27
  go_wp2
  go_ret
  exact ⟨rfl, HB.out⟩
def fB1 : Bts := sldB [2, 1] (pg0 3) (nb 768) 0 [97, 98, 99, 100]
def fP1 : List Pg := [(0, 5), (1, 3), (2, 3)]
def fB3 : Bts := soutB [2, 1] fP1 fB1 0 256 [97, 98]
theorem fP1_is : sldP [2, 1] (pg0 3) 0 [97, 98, 99, 100] = fP1 := by decide +kernel
theorem fE1 : sldE [2, 1] 0 4 = 0 := by decide +kernel
theorem fE2 : sldE [2, 1] 1 257 = 122 := by decide +kernel
theorem fE3 : soutE [2, 1] fP1 0 256 2 = 0 := by decide +kernel
theorem fE4 : soutE [2, 1] fP1 0 255 1 = 121 := by decide +kernel
theorem fE5 : sinE [2, 1] fP1 0 255 3 = 0 := by decide +kernel
theorem fS5 : sinS [2, 1] fP1 fB3 0 255 3 = [0, 97, 98] := by decide +kernel
theorem fE6 : sinE [2, 1] fP1 0 511 2 = 121 := by decide +kernel
theorem fE7 : sinE [2, 1] fP1 2 0 0 = 120 := by decide +kernel
theorem fT0 : tabP [2, 1] fP1 0 = [(0, 5), (1, 3)] := by decide +kernel
theorem fT1 : tabP [2, 1] fP1 1 = [(2, 3)] := by decide +kernel
theorem fok : okL [(0, 2), (0, 1)] := by decide +kernel
theorem tab_of {w : World} : TabV (fun _ => True) (w.alloc (.cells #[.int .i64 0, .int .i64 2, .int .i64 0, .int .i64 1] 53)) (.slice (some ⟨w.heap.size, 0, none⟩) 2 2) [(0, 2), (0, 1)] := by
  refine ⟨_, 2, rfl, Nat.le_refl _, fun _ => ⟨w.heap.size, 0, rfl, trivial, by simp, fun j hj => ?_⟩⟩
  have hr := block_new w (.cells #[.int .i64 0, .int .i64 2, .int .i64 0, .int .i64 1] 53)
  rw [cell_of_row _ _ _ _ _ _ hr, cell_of_row _ _ _ _ _ _ hr]
  match j, hj with
  | 0, _ => exact ⟨rfl, rfl⟩
  | 1, _ => exact ⟨rfl, rfl⟩
theorem onS_below {B : Nat} {s : SpAt} {w w' : World} (h : Ch (onS s) w w') (hB : B ≤ w.heap.size) (h1 : B ≤ s.g ∧ B ≤ s.gp) : Below B w w' := h.below hB fun k hk => by rcases hk with rfl | rfl <;> omega
theorem onB_below {B : Nat} {s : SpAt} {w w' : World} (h : Ch (onB s.g) w w') (hB : B ≤ w.heap.size) (h1 : B ≤ s.g ∧ B ≤ s.gp) : Below B w w' := h.below hB fun k hk => by have : k = s.g := hk; omega
/-- the space as it stands, made behind n0 -/
def Sp (n0 : Nat) (w0 w : World) (s : SpAt) (B : Bts) (ns : List Nat) (ps : List Pg) : Prop := IsS w s B ns ps ∧ Below n0 w0 w ∧ n0 ≤ w0.heap.size ∧ n0 ≤ s.g ∧ n0 ≤ s.gp
theorem Sp.below {n0 : Nat} {w0 w w' : World} {s : SpAt} {B : Bts} {ns : List Nat} {ps : List Pg} (h : Sp n0 w0 w s B ns ps) (hb : Below w.heap.size w w') : Sp n0 w0 w' s B ns ps := ⟨h.1.below hb, h.2.1.trans (hb.mono (Nat.le_trans h.2.2.1 h.2.1.size)), h.2.2⟩
theorem Sp.load {n0 : Nat} {w0 w : World} {s : SpAt} {B : Bts} {ns : List Nat} {ps : List Pg} (h : Sp n0 w0 w s B ns ps) (k : Int) (t : ByteArray) (hts : t.size ≤ 140737488355328) :
    Calls Try.prog 11 #[.pointer (some ⟨s.p, 0, none⟩), .int .i64 k, .string t] w fun e w' => e = .returned (.int .i64 (sldE ns k t.size)) ∧ Sp n0 w0 w' s (sldB ns ps B k t.data.toList) ns (sldP ns ps k t.data.toList) :=
  (sload_any w s B ns ps h.1 k t hts).mono fun e w' ⟨a, b, c⟩ => ⟨a, b, h.2.1.trans (onS_below c (Nat.le_trans h.2.2.1 h.2.1.size) h.2.2.2), h.2.2⟩
theorem Sp.out {n0 : Nat} {w0 w : World} {s : SpAt} {B : Bts} {ns : List Nat} {ps : List Pg} (h : Sp n0 w0 w s B ns ps) (k a : Int) (t : ByteArray) (ha : In64 a) (hts : t.size ≤ 140737488355328) :
    Calls Try.prog 15 #[.pointer (some ⟨s.p, 0, none⟩), .int .i64 k, .int .i64 a, .string t] w fun e w' => e = .returned (.int .i64 (soutE ns ps k a t.size)) ∧ Sp n0 w0 w' s (soutB ns ps B k a t.data.toList) ns ps :=
  (sout_any w s B ns ps h.1 k a t ha hts).mono fun e w' ⟨x, y, z⟩ => ⟨x, y, h.2.1.trans (onB_below z (Nat.le_trans h.2.2.1 h.2.1.size) h.2.2.2), h.2.2⟩
theorem Sp.in_ {n0 : Nat} {w0 w : World} {s : SpAt} {B : Bts} {ns : List Nat} {ps : List Pg} (h : Sp n0 w0 w s B ns ps) (k a n : Int) (ha : In64 a) :
    Calls Try.prog 13 #[.pointer (some ⟨s.p, 0, none⟩), .int .i64 k, .int .i64 a, .int .i64 n] w fun e w' => e = .returned (.tuple #[.string (ofL (sinS ns ps B k a n)), .int .i64 (sinE ns ps k a n)]) ∧ Sp n0 w0 w' s B ns ps :=
  (sin_any w s B ns ps h.1 k a n ha).mono fun e w' ⟨x, y⟩ => ⟨x, h.below y⟩
theorem Sp.mem_ {n0 : Nat} {w0 w : World} {s : SpAt} {B : Bts} {ns : List Nat} {ps : List Pg} (h : Sp n0 w0 w s B ns ps) :
    Calls Try.prog 25 #[.pointer (some ⟨s.p, 0, none⟩)] w fun e w' => e = .returned (.pointer (some ⟨s.pm, 0, none⟩)) ∧ w = w' := smem_any w s B ns ps h.1
theorem fC1 (n0 : Nat) (w0 w : World) (s : SpAt) (h : Sp n0 w0 w s (nb 768) [2, 1] (pg0 3)) : Calls Try.prog 11 #[.pointer (some ⟨s.p, 0, none⟩), .int .i64 0, .string ⟨#[97, 98, 99, 100]⟩] w fun e w' => e = .returned (.int .i64 0) ∧ Sp n0 w0 w' s fB1 [2, 1] fP1 := by
  have k := h.load 0 ⟨#[97, 98, 99, 100]⟩ (by decide)
  rw [show (⟨#[97, 98, 99, 100]⟩ : ByteArray).size = 4 from rfl, fE1, show (⟨#[97, 98, 99, 100]⟩ : ByteArray).data.toList = [97, 98, 99, 100] from rfl, fP1_is] at k
  exact k
theorem fC2 (n0 : Nat) (w0 w : World) (s : SpAt) (h : Sp n0 w0 w s fB1 [2, 1] fP1) : Calls Try.prog 11 #[.pointer (some ⟨s.p, 0, none⟩), .int .i64 1, .string (ofL (nb 257))] w fun e w' => e = .returned (.int .i64 122) ∧ Sp n0 w0 w' s fB1 [2, 1] fP1 := by
  have k := h.load 1 (ofL (nb 257)) (by rw [ofL_size, nb_len]; omega)
  rw [ofL_size, nb_len, fE2, ofL_list] at k
  have e1 : sldB [2, 1] fP1 fB1 1 (nb 257) = fB1 := by unfold sldB; rw [nb_len, fE2, if_neg (by decide)]
  have e2 : sldP [2, 1] fP1 1 (nb 257) = fP1 := by unfold sldP; rw [nb_len, fE2, if_neg (by decide)]
  rw [e1, e2] at k
  exact k
theorem fC3 (n0 : Nat) (w0 w : World) (s : SpAt) (h : Sp n0 w0 w s fB1 [2, 1] fP1) : Calls Try.prog 15 #[.pointer (some ⟨s.p, 0, none⟩), .int .i64 0, .int .i64 256, .string ⟨#[97, 98]⟩] w fun e w' => e = .returned (.int .i64 0) ∧ Sp n0 w0 w' s fB3 [2, 1] fP1 := by
  have k := h.out 0 256 ⟨#[97, 98]⟩ (by unfold In64; omega) (by decide)
  rw [show (⟨#[97, 98]⟩ : ByteArray).size = 2 from rfl, fE3] at k
  exact k
theorem fC4 (n0 : Nat) (w0 w : World) (s : SpAt) (h : Sp n0 w0 w s fB3 [2, 1] fP1) : Calls Try.prog 15 #[.pointer (some ⟨s.p, 0, none⟩), .int .i64 0, .int .i64 255, .string ⟨#[120]⟩] w fun e w' => e = .returned (.int .i64 121) ∧ Sp n0 w0 w' s fB3 [2, 1] fP1 := by
  have k := h.out 0 255 ⟨#[120]⟩ (by unfold In64; omega) (by decide)
  have e1 : soutB [2, 1] fP1 fB3 0 255 [120] = fB3 := by unfold soutB; rw [show ([120] : Bts).length = 1 from rfl, fE4, if_neg (by decide)]
  rw [show (⟨#[120]⟩ : ByteArray).size = 1 from rfl, fE4, show (⟨#[120]⟩ : ByteArray).data.toList = [120] from rfl, e1] at k
  exact k
theorem fC5 (n0 : Nat) (w0 w : World) (s : SpAt) (h : Sp n0 w0 w s fB3 [2, 1] fP1) : Calls Try.prog 13 #[.pointer (some ⟨s.p, 0, none⟩), .int .i64 0, .int .i64 255, .int .i64 3] w fun e w' => e = .returned (.tuple #[.string ⟨#[0, 97, 98]⟩, .int .i64 0]) ∧ Sp n0 w0 w' s fB3 [2, 1] fP1 := by
  have k := h.in_ 0 255 3 (by unfold In64; omega)
  rw [fS5, fE5] at k
  exact k
theorem fC6 (n0 : Nat) (w0 w : World) (s : SpAt) (h : Sp n0 w0 w s fB3 [2, 1] fP1) : Calls Try.prog 13 #[.pointer (some ⟨s.p, 0, none⟩), .int .i64 0, .int .i64 511, .int .i64 2] w fun e w' => e = .returned (.tuple #[.string ⟨#[]⟩, .int .i64 121]) ∧ Sp n0 w0 w' s fB3 [2, 1] fP1 := by
  have k := h.in_ 0 511 2 (by unfold In64; omega)
  have e : sinS [2, 1] fP1 fB3 0 511 2 = [] := by unfold sinS; rw [fE6, if_neg (by decide)]
  rw [e, fE6] at k
  exact k
theorem fC7 (n0 : Nat) (w0 w : World) (s : SpAt) (h : Sp n0 w0 w s fB3 [2, 1] fP1) : Calls Try.prog 13 #[.pointer (some ⟨s.p, 0, none⟩), .int .i64 2, .int .i64 0, .int .i64 0] w fun e w' => e = .returned (.tuple #[.string ⟨#[]⟩, .int .i64 120]) ∧ Sp n0 w0 w' s fB3 [2, 1] fP1 := by
  have k := h.in_ 2 0 0 (by unfold In64; omega)
  have e : sinS [2, 1] fP1 fB3 2 0 0 = [] := by unfold sinS; rw [fE7, if_neg (by decide)]
  rw [e, fE7] at k
  exact k
theorem fC8 (n0 : Nat) (w0 w : World) (s : SpAt) (h : Sp n0 w0 w s fB3 [2, 1] fP1) : Calls Try.prog 21 #[.pointer (some ⟨s.p, 0, none⟩), .int .i64 0] w fun e w' => ∃ g' cap', e = .returned (.slice (some ⟨g', 0, none⟩) 2 cap') ∧ (w'.cell? ⟨g', 0, none⟩ = some (.int .i64 0) ∧ w'.cell? ⟨g', 1, none⟩ = some (.int .i64 5) ∧ w'.cell? ⟨g', 2, none⟩ = some (.int .i64 1) ∧ w'.cell? ⟨g', 3, none⟩ = some (.int .i64 3)) ∧ Below w.heap.size w w' ∧ Sp n0 w0 w' s fB3 [2, 1] fP1 := by
  refine (sTable_any w s _ _ _ h.1 0 (by decide)).mono fun e w' ⟨g', cap', he, hT, _, hb⟩ => ⟨g', cap', he, ?_, hb, h.below hb⟩
  rw [fT0] at hT
  obtain ⟨q, cap, e1, _, hc⟩ := hT
  obtain ⟨b, o, hq, _, _, hcl⟩ := hc (by simp)
  injection e1 with e1
  rw [hq] at e1
  injection e1 with e1
  injection e1 with e1 e2
  subst e1 e2
  exact ⟨(hcl 0 (by decide)).1, (hcl 0 (by decide)).2, (hcl 1 (by decide)).1, (hcl 1 (by decide)).2⟩
theorem fC9 (n0 : Nat) (w0 w : World) (s : SpAt) (h : Sp n0 w0 w s fB3 [2, 1] fP1) : Calls Try.prog 21 #[.pointer (some ⟨s.p, 0, none⟩), .int .i64 1] w fun e w' => ∃ g' cap', e = .returned (.slice (some ⟨g', 0, none⟩) 1 cap') ∧ (w'.cell? ⟨g', 0, none⟩ = some (.int .i64 2) ∧ w'.cell? ⟨g', 1, none⟩ = some (.int .i64 3)) ∧ Below w.heap.size w w' ∧ Sp n0 w0 w' s fB3 [2, 1] fP1 := by
  refine (sTable_any w s _ _ _ h.1 1 (by decide)).mono fun e w' ⟨g', cap', he, hT, _, hb⟩ => ⟨g', cap', he, ?_, hb, h.below hb⟩
  rw [fT1] at hT
  obtain ⟨q, cap, e1, _, hc⟩ := hT
  obtain ⟨b, o, hq, _, _, hcl⟩ := hc (by simp)
  injection e1 with e1
  rw [hq] at e1
  injection e1 with e1
  injection e1 with e1 e2
  subst e1 e2
  exact ⟨(hcl 0 (by decide)).1, (hcl 0 (by decide)).2⟩
set_option maxRecDepth 100000 in
set_option maxHeartbeats 4000000 in
theorem fixed_any (w : World) : Calls Try.prog 9 #[] w fun e w' => e = .returned (.bool true) ∧ Below w.heap.size w w' := by
  obtain ⟨w1, hw1⟩ : ∃ w1, w1 = w.alloc (.cells #[.int .i64 0, .int .i64 2, .int .i64 0, .int .i64 1] 53) := ⟨_, rfl⟩
  have hb1 : Below w.heap.size w w1 := by rw [hw1]; exact (Below.refl _ w).alloc (Nat.le_refl _) _
  have k7 : Calls Try.prog 7 #[.slice (some ⟨w.heap.size, 0, none⟩) 2 2] w1 fun e w' => ∃ s : SpAt, e = .returned (.tuple #[.pointer (some ⟨s.p, 0, none⟩), .int .i64 0]) ∧ Hid (Sp w.heap.size w w' s (nb 768) [2, 1] (pg0 3)) := by
    have k := snew_any w1 (fun _ => True) (.slice (some ⟨w.heap.size, 0, none⟩) 2 2) [(0, 2), (0, 1)] (by rw [hw1]; exact tab_of) fok
    refine k.mono fun e w' ⟨s, he, hS, hb, h1, h2⟩ => ⟨s, he, Lib.hid ⟨hS, hb1.trans (hb.mono hb1.size), Nat.le_refl _, Nat.le_trans hb1.size h1, Nat.le_trans hb1.size h2⟩⟩
  rw [hw1] at k7
  have K7 := Lib.hid k7
  have KN : Hid (∀ W, Calls Try.prog 27 #[.int .i64 257] W fun e w' => e = .returned (.string (ofL (nb 257))) ∧ Below W.heap.size W w') := Lib.hid fun W => noughts_any 257 (by omega) W
  clear k7 hw1 hb1
  obtain ⟨Z, hZ⟩ : ∃ Z, Z = ofL (nb 257) := ⟨_, rfl⟩
  have K2 : Hid (∀ (W : World) (s : SpAt), Sp w.heap.size w W s fB1 [2, 1] fP1 → Calls Try.prog 11 #[.pointer (some ⟨s.p, 0, none⟩), .int .i64 1, .string Z] W fun e w' => e = .returned (.int .i64 122) ∧ Sp w.heap.size w w' s fB1 [2, 1] fP1) := Lib.hid fun W s h => by rw [hZ]; exact fC2 _ _ _ _ h
  rw [← hZ] at KN
  clear hZ
  go_enter Try.func9, Try.ntmps9
  go_wp2_with (first
    | (go_at_call 7; (with_reducible refine K7.out.mono ?_); rintro e w2 ⟨s, rfl, H2⟩)
    | (go_at_call 11; (with_reducible refine (fC1 _ _ _ _ H2.out).mono ?_); rintro e w3 ⟨rfl, h3⟩; have H3 := Lib.hid h3; clear h3)
    | (go_at_call 27; (with_reducible refine (KN.out _).mono ?_); rintro e w4 ⟨rfl, hb⟩; have H4 := Lib.hid (H3.out.below hb); clear hb)
    | (go_at_call 11; (with_reducible refine (K2.out _ _ H4.out).mono ?_); rintro e w5 ⟨rfl, h5⟩; have H5 := Lib.hid h5; clear h5)
    | (go_at_call 15; (with_reducible refine (fC3 _ _ _ _ H5.out).mono ?_); rintro e w6 ⟨rfl, h6⟩; have H6 := Lib.hid h6; clear h6)
    | (go_at_call 15; (with_reducible refine (fC4 _ _ _ _ H6.out).mono ?_); rintro e w7 ⟨rfl, h7⟩; have H7 := Lib.hid h7; clear h7)
    | (go_at_call 13; (with_reducible refine (fC5 _ _ _ _ H7.out).mono ?_); rintro e w8 ⟨rfl, h8⟩; have H8 := Lib.hid h8; clear h8)
    | (go_at_call 13; (with_reducible refine (fC6 _ _ _ _ H8.out).mono ?_); rintro e w9 ⟨rfl, h9⟩; have H9 := Lib.hid h9; clear h9)
    | (go_at_call 13; (with_reducible refine (fC7 _ _ _ _ H9.out).mono ?_); rintro e w10 ⟨rfl, h10⟩; have H10 := Lib.hid h10; clear h10)
    | (go_at_call 21; (with_reducible refine (fC8 _ _ _ _ H10.out).mono ?_); rintro e w11 ⟨gt, ct, rfl, ⟨d0, d1, d2, d3⟩, hb, h11⟩; have H11 := Lib.hid h11; have HD := Lib.hid (And.intro d0 (And.intro d1 (And.intro d2 d3))); clear h11 hb d0 d1 d2 d3)
    | (go_at_call 21; (with_reducible refine (fC9 _ _ _ _ H11.out).mono ?_); rintro e w12 ⟨gu, cu, rfl, ⟨u0, u1⟩, hb, h12⟩; have H12 := Lib.hid h12; have d0 := cell_below HD.out.1 hb; have d1 := cell_below HD.out.2.1 hb; have d2 := cell_below HD.out.2.2.1 hb; have d3 := cell_below HD.out.2.2.2 hb; clear h12 hb)
    | (go_at_call 25; (with_reducible refine (Sp.mem_ H12.out).mono ?_); rintro e _ ⟨rfl, rfl⟩))
  go_ret
  exact ⟨rfl, H12.out.2.1⟩
end Go.Proofs.Ytedhefidfepclaa
