/- The document's memory: bytes laid into a frame, cleared, told; noughts; a word's width. Conditions: numbers that a machine holds. -/
import Derived.Test.YtedhefidfepclaaRfb
import Derived.Test.YtedhefidfepclaaStw
import Derived.BigRegion
import Derived.Laws.Concat
namespace Go.Proofs.Ytedhefidfepclaa
open Go.RowKit Go.Maps
set_option linter.unusedVariables false

theorem str_nil : (⟨#[]⟩ : ByteArray) = ByteArray.empty := rfl
set_option maxHeartbeats 1000000 in
theorem rframe_any (p g cap F : Nat) (B : Bts) (w : World) (h : IsR w p g cap F B) (f : Int) :
    Calls Try.prog 50 #[.pointer (some ⟨p, 0, none⟩), .int .i64 f] w fun e w' => e = .returned (if isF F f then .tuple #[.string (ofL (frameB B f.toNat)), .int .i64 0] else .tuple #[.string ⟨#[]⟩, .int .i64 83]) ∧ w = w' := by
  have c0 := h.cell
  by_cases a : isF F f
  · rw [if_pos a]
    unfold isF at a
    obtain ⟨i, rfl⟩ : ∃ i : Nat, f = (i : Int) := ⟨f.toNat, by omega⟩
    have hiF : i < F := by omega
    have c1 := h.frame i hiF
    clear h a
    go_enter Try.func50, Try.ntmps50
    go_wp2
    go_ret2
    exact ⟨rfl, rfl⟩
  · rw [if_neg a]
    unfold isF at a
    clear h
    by_cases b : f < 0
    · clear a
      go_enter Try.func50, Try.ntmps50
      go_wp2
      go_ret2
      exact ⟨rfl, rfl⟩
    · have c : (F : Int) ≤ f := by omega
      clear a
      go_enter Try.func50, Try.ntmps50
      go_wp2
      go_ret2
      exact ⟨rfl, rfl⟩
set_option maxHeartbeats 1000000 in
theorem rnoughts_any (n : Nat) (hn : n ≤ 4096) (w : World) : Calls Try.prog 59 #[.int .i64 (n : Int)] w fun e w' => e = .returned (.string (ofL (nb n))) ∧ Below w.heap.size w w' := by
  obtain ⟨i0, hi, hz0, hz1, hz2⟩ := info_parts Try.info5
  obtain ⟨w1, h1, h2, h3⟩ := run_makeSlice_full (P := Try.prog) w w.heap.size 97 5 i0 (.int .u8 0) 1 Try.underlying97 hi hz0 hz1 .i64 .i64 n (by omega) (by rw [hz2]; omega) (by unfold maxLen; omega) (Nat.le_refl _)
  have hb1 : Below w.heap.size w w1 := (Below.refl _ w).grown h3 (Nat.le_refl _) (fun j e => by cases e)
  have hrow : RowB 5 w1 w.heap.size n (nb n) := by
    rcases h2.2 with ⟨e, _⟩ | ⟨g', c', cur, e, _, hg', hc1, _, hc3, hc4⟩
    · cases e
    · injection e with e1 _ e3
      injection e1 with e1
      injection e1 with e1
      subst e1 e3
      refine ⟨cur, (0, 0), hg', .inl rfl, by rw [nb_len]; exact Nat.le_refl _, by omega, ?_⟩
      rw [nb_len, ← Nat.mul_one n, hc4, made_u8, Nat.mul_one]
      rfl
  have hcv := hrow.string (w' := w1) 0 n n (by rw [nb_len]; omega)
  rw [List.drop_zero, List.take_of_length_le (by rw [nb_len]; exact Nat.le_refl _)] at hcv
  have HB := Lib.hid hb1
  clear hi hz0 hz1 hz2 h2 h3 hrow hb1
  go_enter Try.func59, Try.ntmps59
  go_wp2
  go_ret
  exact ⟨rfl, HB.out⟩
theorem cat3 (X s : ByteArray) (a : Nat) (h : a + s.size ≤ X.size) : X.extract 0 a ++ s ++ X.extract (a + s.size) X.size = ofL (lay X.data.toList a s.data.toList) := by
  apply ByteArray.ext
  apply Array.ext'
  rw [ofL_list]
  simp only [ByteArray.data_append, ByteArray.data_extract, Array.toList_append, Array.toList_extract, lay, List.extract_eq_take_drop, List.drop_zero, baList, Nat.sub_zero]
  congr 1
  apply List.take_of_length_le
  simp
set_option maxHeartbeats 4000000 in
set_option maxRecDepth 20000 in
theorem rlay_any (p g cap F : Nat) (B : Bts) (w : World) (h : IsR w p g cap F B) (f a : Int) (s : ByteArray) (hs : s.size < 140737488355328) :
    Calls Try.prog 39 #[.pointer (some ⟨p, 0, none⟩), .int .i64 f, .int .i64 a, .string s] w fun e w' => e = .returned (.int .i64 (layE F f a s.size)) ∧ IsR w' p g cap F (layB F B f a s.data.toList) ∧ Ch (onB g) w w' := by
  have c0 := h.cell
  unfold layB
  rw [baList]
  by_cases c : isF F f
  · have c' := c
    unfold isF at c
    obtain ⟨i, rfl⟩ : ∃ i : Nat, f = (i : Int) := ⟨f.toNat, by omega⟩
    have hiF : i < F := by omega
    have H := Lib.hid h
    by_cases b : a < 0
    · have e0 : layE F i a s.size = 80 := by unfold layE; rw [if_pos c', if_pos (.inl b)]
      rw [e0, if_neg (by decide)]
      clear h e0 c c'
      go_enter Try.func39, Try.ntmps39
      go_wp2
      go_ret
      exact ⟨rfl, H.out, Ch.refl _ _⟩
    · by_cases d0 : 256 < a
      · have e0 : layE F i a s.size = 80 := by unfold layE; rw [if_pos c', if_pos (.inr (by omega))]
        rw [e0, if_neg (by decide)]
        clear h e0 c c'
        go_enter Try.func39, Try.ntmps39
        go_wp2
        go_ret
        exact ⟨rfl, H.out, Ch.refl _ _⟩
      obtain ⟨o, rfl⟩ : ∃ o : Nat, a = (o : Int) := ⟨a.toNat, by omega⟩
      by_cases d : 256 - (o : Int) < s.size
      · have e0 : layE F i o s.size = 80 := by unfold layE; rw [if_pos c', if_pos (.inr (by omega))]
        rw [e0, if_neg (by decide)]
        clear h e0 c c'
        go_enter Try.func39, Try.ntmps39
        go_wp2
        go_ret
        exact ⟨rfl, H.out, Ch.refl _ _⟩
      · have e0 : layE F i o s.size = 0 := by unfold layE; rw [if_pos c', if_neg (by omega)]
        rw [e0, if_pos rfl]
        have c1 := h.frame i hiF
        have f1 := h.free i
        have hl := frameB_len h.len hiF
        have hdr : IsR w.drew p g cap F B := h.below ⟨rfl, rfl, rfl, Nat.le_refl _, fun _ _ => rfl⟩
        have hput := hdr.put hiF (a := o) (s := s.data.toList) (by rw [baList]; omega)
        obtain ⟨X, hX⟩ : ∃ X, X = ofL (frameB B i) := ⟨_, rfl⟩
        have hXs : X.size = 256 := by rw [hX, ofL_size, hl]
        have hcat := cat3 X s o (by omega)
        have eX : X.data.toList = frameB B i := by rw [hX, ofL_list]
        rw [eX] at hcat
        rw [← hX] at c1
        obtain ⟨N, hN⟩ : ∃ N, N = ofL (lay (frameB B i) o s.data.toList) := ⟨_, rfl⟩
        rw [← hN] at hcat hput
        rw [hXs] at hcat
        have hd : o + s.size ≤ 256 := by omega
        have HP := Lib.hid (And.intro hput (And.intro hX (And.intro hN c)))
        clear h e0 c c' hput hX hN eX hl hdr
        obtain ⟨E1, hE1⟩ : ∃ E1, X.extract 0 o = E1 := ⟨_, rfl⟩
        obtain ⟨T, hT⟩ : ∃ T, T = o + s.size := ⟨_, rfl⟩
        have hwT : IntKind.i64.wrap ((o : Int) + (s.size : Int)) = (T : Int) := by rw [wrap_in (by omega)]; omega
        have hT2 : (T : Int) ≤ 256 := by omega
        rw [← hT] at hcat
        obtain ⟨E2, hE2⟩ : ∃ E2, X.extract T 256 = E2 := ⟨_, rfl⟩
        rw [hE1, hE2] at hcat
        have z1 : E1.size = o := by rw [← hE1, ByteArray.size_extract]; omega
        have z2 : E2.size = 256 - T := by rw [← hE2, ByteArray.size_extract]; omega
        have g1 : ¬ 9223372036854775807 < E1.size + s.size := by omega
        have g2 : ¬ 9223372036854775807 < E1.size + s.size + E2.size := by omega
        clear z1 z2 hd hT
        go_enter Try.func39, Try.ntmps39
        go_wp2
        go_still_tail 30, (by kernel_rfl)
        change wpList _ _ _ _ _ w.drew
        have c1d : w.drew.cell? ⟨g, i, none⟩ = some (.string X) := c1
        have f1d : w.drew.frozen? ⟨g, i, none⟩ = false := f1
        have HCD : Hid (∀ v, Ch (onB g) w (w.drew.setCell ⟨g, i, none⟩ v)) := fun v => Ch.setCell (F := onB g) (Ch.drew (Ch.refl _ _)) rfl i v
        generalize w.drew = w2 at *
        go_wp2
        go_ret
        refine ⟨rfl, ?_, HCD.out _⟩
        rw [Int.toNat_natCast, Int.toNat_natCast]
        exact HP.out.1
  · have e0 : layE F f a s.size = 83 := by unfold layE; rw [if_neg c]
    rw [e0, if_neg (by decide)]
    have H := Lib.hid h
    clear h e0
    unfold isF at c
    by_cases b : f < 0
    · clear c
      go_enter Try.func39, Try.ntmps39
      go_wp2
      go_ret
      exact ⟨rfl, H.out, Ch.refl _ _⟩
    · have c2 : (F : Int) ≤ f := by omega
      clear c
      go_enter Try.func39, Try.ntmps39
      go_wp2
      go_ret
      exact ⟨rfl, H.out, Ch.refl _ _⟩
set_option maxHeartbeats 1000000 in
theorem rclear_any (p g cap F : Nat) (B : Bts) (w : World) (h : IsR w p g cap F B) (f : Int) :
    Calls Try.prog 38 #[.pointer (some ⟨p, 0, none⟩), .int .i64 f] w fun e w' => e = .returned (.int .i64 (if isF F f then 0 else 83)) ∧ IsR w' p g cap F (clrB F B f) ∧ Ch (onB g) w w' := by
  have kn := rnoughts_any 256 (by omega) w
  obtain ⟨Z, hZ⟩ : ∃ Z, Z = ofL (nb 256) := ⟨_, rfl⟩
  have hZs : Z.size = 256 := by rw [hZ, ofL_size, nb_len]
  have hZl : Z.data.toList = nb 256 := by rw [hZ, ofL_list]
  rw [← hZ] at kn
  have kl : Hid (∀ W, Below w.heap.size w W → Calls Try.prog 39 #[.pointer (some ⟨p, 0, none⟩), .int .i64 f, .int .i64 0, .string Z] W fun e w' => e = .returned (.int .i64 (if isF F f then 0 else 83)) ∧ IsR w' p g cap F (clrB F B f) ∧ Ch (onB g) W w') := fun W hW => by
    have := rlay_any p g cap F B W (h.below hW) f 0 Z (by omega)
    have e1 : layE F f 0 Z.size = if isF F f then 0 else 83 := by unfold layE; rw [hZs]; split <;> rfl
    have e2 : layB F B f 0 Z.data.toList = clrB F B f := by
      unfold layB clrB layE
      rw [hZl, nb_len]
      by_cases c : isF F f
      · rw [if_pos c, if_pos (by simp), if_pos c]; simp
      · rw [if_neg c, if_neg (by decide), if_neg c]
    rw [e1, e2] at this
    exact this
  generalize (if isF F f then (0 : Int) else 83) = E at *
  clear h hZ hZs hZl
  go_enter Try.func38, Try.ntmps38
  go_wp2_with (first
    | (go_at_call 59; refine kn.mono ?_; rintro e w' ⟨rfl, hb⟩; have HB := Lib.hid hb; clear hb)
    | (go_at_call 39; refine (kl.out _ HB.out).mono ?_; rintro e w'' ⟨rfl, k1, k2⟩; have HK := Lib.hid (And.intro k1 k2); clear k1 k2))
  go_ret
  exact ⟨rfl, HK.out.1, (Ch.of_below HB.out).trans (Gr.refl _ _ _) HK.out.2⟩
end Go.Proofs.Ytedhefidfepclaa
