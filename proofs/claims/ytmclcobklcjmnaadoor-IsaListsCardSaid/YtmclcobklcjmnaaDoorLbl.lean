/- A jump to a label, as a pure function: how far it is. Conditions: so many instructions as a program bears. -/
import Derived.Test.YtmclcobklcjmnaaDoorSim
namespace Go.Proofs.YtmclcobklcjmnaaDoor
open Go.RowKit Go.Maps
set_option linter.unusedVariables false
set_option linter.unusedSimpArgs false

theorem lab_chars {L : Bs} (h : labB L = true) : L ≠ [] ∧ L.length ≤ 12 ∧ ∀ c ∈ L, plainC c := by
  cases L with
  | nil => cases h
  | cons x l =>
    unfold labB at h
    simp only [Bool.and_eq_true, decide_eq_true_eq] at h
    refine ⟨by simp, h.1.1, fun c hc => ?_⟩
    have := List.all_eq_true.1 h.2 c hc
    refine ⟨?_, ?_, ?_⟩ <;> (rintro rfl; revert this; decide)
def labelLine (L : Bs) : Bs := L ++ [58]
theorem suf_colon (L : Bs) : Lib.hasSuffix (L ++ [58]) [58] = true ∧ Lib.trimSuffix (L ++ [58]) [58] = L := by
  have h : Lib.hasSuffix (L ++ [58]) [58] = true := List.isSuffixOf_iff_suffix.2 ⟨L, rfl⟩
  refine ⟨h, ?_⟩
  unfold Lib.trimSuffix
  rw [if_pos h]
  simp
theorem no_colon {l : Bs} (h : ∀ c ∈ l, plainC c) : Lib.hasSuffix l [58] = false := by
  cases hs : Lib.hasSuffix l [58] with
  | false => rfl
  | true =>
    exfalso
    obtain ⟨t, ht⟩ := List.isSuffixOf_iff_suffix.1 (show ([58] : Bs).isSuffixOf l = true from hs)
    exact (h 58 (by rw [← ht]; simp)).2.1 rfl
/-- the instruction of a text that ends in a way to a label: 'jump ' or 'some r3 ' ahead of it -/
theorem bof_way (i : In) (ahead L : Bs) (hL : labB L = true) (hi : okI i = true) (hp : prnI i = ahead ++ [48]) (ha : ∀ c ∈ ahead, c ≠ 64) (he : endB ahead 32 = true) (hw : Lib.hasPrefix (ahead ++ 64 :: L) wordL = false) (hl : leadB i.op = true) :
    bofP (ahead ++ 64 :: L) = some (encI i, L) := by
  unfold bofP insP
  rw [if_neg (by rw [hw]; decide), cutB_at 64 _ _ ha]
  dsimp only
  rw [if_neg (by decide), if_neg (by rw [he, hL]; simp), ← hp, par_prn i hi]
  dsimp only
  rw [if_pos hl]
  rfl
theorem no_suffix_at {ahead L : Bs} (hL : labB L = true) (ha : ∀ c ∈ ahead, c ≠ 58) : Lib.hasSuffix (ahead ++ 64 :: L) [58] = false := by
  cases hs : Lib.hasSuffix (ahead ++ 64 :: L) [58] with
  | false => rfl
  | true =>
    exfalso
    obtain ⟨t, ht⟩ := List.isSuffixOf_iff_suffix.1 (show ([58] : Bs).isSuffixOf (ahead ++ 64 :: L) = true from hs)
    obtain ⟨h0, _, hc⟩ := lab_chars hL
    have hlast : (ahead ++ 64 :: L).getLast? = some 58 := by rw [← ht]; simp
    rw [List.getLast?_append, List.getLast?_cons] at hlast
    have h1 : L.getLast? = some (L.getLast h0) := List.getLast?_eq_some_getLast h0
    rw [h1] at hlast
    simp at hlast
    exact (hc _ (List.getLast_mem h0)).2.1 hlast
theorem add_way (S : St) (i : In) (ahead L : Bs) (num : Int) (hL : labB L = true) (hi : okI i = true) (hp : prnI i = ahead ++ [48]) (ha : ∀ c ∈ ahead, plainC c) (he : endB ahead 32 = true) (hw : Lib.hasPrefix (ahead ++ 64 :: L) wordL = false) (hl : leadB i.op = true) (hlen : S.prog.length + 4 ≤ 4096) :
    addP S (ahead ++ 64 :: L) num = .inr { S with prog := S.prog ++ encI i, ways := S.ways ++ [⟨num, S.prog.length, L⟩] } := by
  unfold addP
  rw [if_neg (by simp), if_neg (by rw [no_suffix_at hL (fun c hc => (ha c hc).2.1)]; decide), bof_way i ahead L hL hi hp (fun c hc => (ha c hc).2.2) he hw hl]
  dsimp only
  rw [if_neg (by rw [enc_len]; omega), if_neg (lab_chars hL).1]
theorem add_label (S : St) (L : Bs) (num : Int) (hL : labB L = true) (hn : S.labels L = none) :
    addP S (L ++ [58]) num = .inr { S with labels := fun x => if x = L then some (S.prog.length : Int) else S.labels x, count := S.count + 1 } := by
  unfold addP
  rw [if_neg (by simp), if_pos (suf_colon L).1, (suf_colon L).2]
  unfold nameP
  rw [if_neg (by rw [hL]; decide), if_neg (by rw [hn]; simp)]
theorem lin_enc (i : In) (h : okI i = true) : linS (encI i) = prnI i := by
  unfold linS
  rw [dec_enc i h]
/-- the lines of instructions that may be -/
theorem adds_prn (is : List In) (S : St) (n : Nat) (h : ∀ i ∈ is, okI i = true) (hl : S.prog.length + 4 * is.length ≤ 4096) : addsP S n (is.map prnI) = .inr { S with prog := S.prog ++ (is.map encI).flatten } := by
  have := adds_lin (is.map encI) S n (fun q hq => by obtain ⟨i, _, rfl⟩ := List.mem_map.1 hq; exact enc_len i) (by rw [List.length_map]; exact hl)
  rw [← this, List.map_map]
  congr 1
  exact List.map_congr_left fun i hi => (lin_enc i (h i hi)).symm
theorem flat_len (is : List In) : (is.map encI).flatten.length = 4 * is.length := by
  induction is with
  | nil => rfl
  | cons i r ih => rw [List.map_cons, List.flatten_cons, List.length_append, ih, enc_len, List.length_cons]; omega
def jumpL : Bs := [106, 117, 109, 112, 32]
def someL : Bs := [115, 111, 109, 101, 32, 114, 51, 32]
def rowsB (is : List In) : Bs := (is.map (fun i => prnI i ++ [10])).flatten
theorem rows_lines (is : List In) (t : Bs) : linesB (rowsB is ++ t) = is.map prnI ++ linesB t := by
  have := lines_join (is.map prnI) t (fun a ha => by obtain ⟨i, _, rfl⟩ := List.mem_map.1 ha; exact fun hc => (prn_plain i 10 hc).1 rfl)
  rw [← this]
  congr 2
  unfold rowsB
  rw [List.flatMap_map]
  rfl
theorem line_one {a : Bs} (h : ∀ c ∈ a, c ≠ 10) (h0 : a ≠ []) : linesB a = [a] := by
  induction a with
  | nil => exact absurd rfl h0
  | cons x l ih =>
    rw [lines_in (h x (by simp))]
    cases l with
    | nil => rfl
    | cons y l => rw [ih (fun c hc => h c (by simp [hc])) (by simp)]
theorem dec_at (i : In) (h : okI i = true) (q : Bs) : decV ((encI i ++ q).take 4) = i := by
  rw [List.take_append_of_le_length (by rw [enc_len]; omega), List.take_of_length_le (by rw [enc_len]; omega)]
  unfold decV
  rw [dec_enc i h]
theorem ok_jump (n : Int) (h0 : -32768 ≤ n) (h1 : n ≤ 32767) : okI ⟨24, 0, 0, n⟩ = true := by
  rw [okI_iff]
  refine ⟨⟨by dsimp only; decide, by dsimp only; decide⟩, ?_⟩
  rw [fits_iff]
  exact ⟨by dsimp only; decide, by dsimp only; decide, by simpa [leastF, hasF, frm, frms] using h0, by simpa [mostF, hasF, frm, frms] using h1⟩
theorem ok_some (n : Int) (h0 : -32768 ≤ n) (h1 : n ≤ 32767) : okI ⟨26, 3, 0, n⟩ = true := by
  rw [okI_iff]
  refine ⟨⟨by dsimp only; decide, by dsimp only; decide⟩, ?_⟩
  rw [fits_iff]
  exact ⟨by dsimp only; decide, by dsimp only; decide, by simpa [leastF, hasF, frm, frms] using h0, by simpa [mostF, hasF, frm, frms] using h1⟩
theorem asm_ahead (is : List In) (h : ∀ i ∈ is, okI i = true) (hm : is.length ≤ 1000) (L : Bs) (hL : labB L = true) :
    asmP (linesB (jumpL ++ 64 :: L ++ [10] ++ (rowsB is ++ (L ++ [58] ++ [10])))) = .inr (encI ⟨24, 0, 0, (is.length : Int)⟩ ++ (is.map encI).flatten) := by
  have hc := (lab_chars hL).2.2
  have hl1 : linesB (jumpL ++ 64 :: L ++ [10] ++ (rowsB is ++ (L ++ [58] ++ [10]))) = (jumpL ++ 64 :: L) :: (is.map prnI ++ [L ++ [58]]) := by
    rw [List.append_assoc (jumpL ++ 64 :: L), List.singleton_append, lines_app _ _ (fun hx => ?_), rows_lines, lines_app _ _ (fun hx => ?_)]
    · rfl
    · rcases List.mem_append.1 hx with hx | hx
      · exact (hc _ hx).1 rfl
      · revert hx; decide
    · rcases List.mem_append.1 hx with hx | hx
      · revert hx; decide
      · rcases List.mem_cons.1 hx with hx | hx
        · revert hx; decide
        · exact (hc _ hx).1 rfl
  rw [hl1]
  unfold asmP
  rw [adds_cons, add_way newSt ⟨24, 0, 0, 0⟩ jumpL L _ hL (by decide) (by decide +kernel) (by decide) (by decide) (by rfl) (by decide) (by simp [newSt])]
  dsimp only
  rw [adds_append, adds_prn is _ _ h (by dsimp only; rw [List.length_append, enc_len]; simp [newSt]; omega)]
  dsimp only
  rw [adds_cons, add_label _ L _ hL rfl]
  dsimp only
  rw [show ∀ S n, addsP S n [] = .inr S from fun _ _ => rfl]
  dsimp only
  rw [show newSt.ways = [] from rfl, List.nil_append, leads_cons]
  unfold leadP
  dsimp only
  rw [if_pos rfl]
  dsimp only
  have e : ledI ⟨newSt.prog ++ encI ⟨24, 0, 0, 0⟩ ++ (is.map encI).flatten, fun x => if x = L then some ((newSt.prog ++ encI ⟨24, 0, 0, 0⟩ ++ (is.map encI).flatten).length : Int) else newSt.labels x, newSt.count + 1, [⟨((0 : Nat) : Int) + 1, newSt.prog.length, L⟩]⟩ ⟨((0 : Nat) : Int) + 1, newSt.prog.length, L⟩ ((newSt.prog ++ encI ⟨24, 0, 0, 0⟩ ++ (is.map encI).flatten).length : Int) = ⟨24, 0, 0, (is.length : Int)⟩ := by
    unfold ledI
    dsimp only
    rw [show newSt.prog = [] from rfl, List.nil_append, List.length_nil, List.drop_zero, dec_at ⟨24, 0, 0, 0⟩ (by decide)]
    dsimp only
    rw [List.length_append, enc_len, flat_len]
    congr 1
    rw [show (((4 + 4 * is.length : Nat) : Int) - (((0 : Nat) : Int) + 4)) = 4 * (is.length : Int) from by omega, Int.mul_tdiv_cancel_left _ (by decide)]
  rw [e, if_pos (ok_jump _ (by omega) (by omega))]
  dsimp only
  rw [show newSt.prog = [] from rfl, List.nil_append, List.length_nil, List.take_zero, List.nil_append, Nat.zero_add, List.drop_append_of_le_length (by rw [enc_len]; omega), List.drop_eq_nil_of_le (by rw [enc_len]; omega), List.nil_append]
  rfl
theorem asm_behind (is : List In) (h : ∀ i ∈ is, okI i = true) (hm : is.length ≤ 1000) (L : Bs) (hL : labB L = true) :
    asmP (linesB (L ++ [58] ++ [10] ++ (rowsB is ++ (someL ++ 64 :: L)))) = .inr ((is.map encI).flatten ++ encI ⟨26, 3, 0, -(is.length : Int) - 1⟩) := by
  have hc := (lab_chars hL).2.2
  have hl1 : linesB (L ++ [58] ++ [10] ++ (rowsB is ++ (someL ++ 64 :: L))) = (L ++ [58]) :: (is.map prnI ++ [someL ++ 64 :: L]) := by
    rw [List.append_assoc (L ++ [58]), List.singleton_append, lines_app _ _ (fun hx => ?_), rows_lines, line_one (fun c hx => ?_) (by simp)]
    · rcases List.mem_append.1 hx with hx | hx
      · exact fun e => by subst e; revert hx; decide
      · rcases List.mem_cons.1 hx with hx | hx
        · exact fun e => by subst e; revert hx; decide
        · exact (hc _ hx).1
    · rcases List.mem_append.1 hx with hx | hx
      · exact (hc _ hx).1 rfl
      · revert hx; decide
  rw [hl1]
  unfold asmP
  rw [adds_cons, add_label newSt L _ hL rfl]
  dsimp only
  rw [adds_append, adds_prn is _ _ h (by simp [newSt]; omega)]
  dsimp only
  rw [adds_cons, add_way _ ⟨26, 3, 0, 0⟩ someL L _ hL (by decide) (by decide +kernel) (by decide) (by decide) (by rfl) (by decide) (by dsimp only; rw [List.length_append, flat_len]; simp [newSt]; omega)]
  dsimp only
  rw [show ∀ S n, addsP S n [] = .inr S from fun _ _ => rfl]
  dsimp only
  rw [show newSt.ways = [] from rfl, List.nil_append, leads_cons]
  unfold leadP
  dsimp only
  rw [if_pos rfl]
  dsimp only
  rw [show newSt.prog = [] from rfl, List.nil_append]
  generalize hF : (is.map encI).flatten = Fl
  have hFl : Fl.length = 4 * is.length := by rw [← hF]; exact flat_len is
  rw [List.length_nil]
  obtain ⟨num, hnum⟩ : ∃ num : Int, num = ((0 + 1 + (is.map prnI).length : Nat) : Int) + 1 := ⟨_, rfl⟩
  rw [← hnum]
  have e : ∀ lb ct wy, ledI ⟨Fl ++ encI ⟨26, 3, 0, 0⟩, lb, ct, wy⟩ ⟨num, Fl.length, L⟩ ((0 : Nat) : Int) = ⟨26, 3, 0, -(is.length : Int) - 1⟩ := by
    intro lb ct wy
    unfold ledI
    dsimp only
    rw [List.drop_left]
    have := dec_at ⟨26, 3, 0, 0⟩ (by decide) []
    rw [List.append_nil] at this
    rw [this]
    dsimp only
    congr 1
    rw [hFl, show (((0 : Nat) : Int) - (((4 * is.length : Nat) : Int) + 4)) = 4 * (-(is.length : Int) - 1) from by omega, Int.mul_tdiv_cancel_left _ (by decide)]
  rw [e, if_pos (ok_some _ (by omega) (by omega))]
  dsimp only
  rw [List.take_left, List.drop_eq_nil_of_le (by rw [List.length_append, enc_len]; omega), List.append_nil]
  rfl
end Go.Proofs.YtmclcobklcjmnaaDoor
