/- A line that List prints is read as the four bytes it was printed of. No conditions but the length of four. -/
import Derived.Test.YtmclcobklcjmnaaDoorLns
namespace Go.Proofs.YtmclcobklcjmnaaDoor
open Go.RowKit Go.Maps
set_option linter.unusedVariables false
set_option linter.unusedSimpArgs false

theorem pm_append (M : Nat) : ∀ (l r : Bs) (acc v : Nat), Lib.parseUintM M acc l = .ok v → Lib.parseUintM M acc (l ++ r) = Lib.parseUintM M v r
  | [], r, acc, v, h => by
    simp only [Lib.parseUintM] at h
    injection h with h
    rw [h, List.nil_append]
  | c :: l, r, acc, v, h => by
    simp only [List.cons_append, Lib.parseUintM] at h ⊢
    split at h
    · rename_i hc
      rw [if_pos hc]
      split at h
      · cases h
      · rename_i h1
        rw [if_neg h1]
        split at h
        · cases h
        · rename_i h2
          rw [if_neg h2]
          exact pm_append M l r _ v h
    · cases h
theorem pm_dec (M u : Nat) (hM : M < 18446744073709551616) (h : u ≤ M) : Lib.parseUintM M 0 (Lib.decDigits u) = .ok u := by
  induction u using Nat.strongRecOn with
  | ind u ih =>
    rw [Lib.decDigits]
    by_cases hu : u < 10
    · rw [dif_pos hu]
      have e : (UInt8.ofNat (48 + u)).toNat = 48 + u := by simp; omega
      simp only [Lib.parseUintM]
      rw [e, if_pos (by omega), if_neg (by omega), if_neg (by omega)]
      congr 1
      omega
    · rw [dif_neg hu, pm_append _ _ _ _ _ (ih (u / 10) (by omega) (by omega))]
      have e : (UInt8.ofNat (48 + u % 10)).toNat = 48 + u % 10 := by simp; omega
      simp only [Lib.parseUintM]
      rw [e, if_pos (by omega), if_neg (by omega), if_neg (by omega)]
      congr 1
      omega
theorem val_four (b0 b1 b2 b3 : UInt8) : valB [b0, b1, b2, b3] = 16777216 * b0.toNat + 65536 * b1.toNat + 256 * b2.toNat + b3.toNat := by
  simp [valB]; omega
theorem four_val (b0 b1 b2 b3 : UInt8) : fourB (valB [b0, b1, b2, b3]) = [b0, b1, b2, b3] := by
  have h0 := b0.toNat_lt
  have h1 := b1.toNat_lt
  have h2 := b2.toNat_lt
  have h3 := b3.toNat_lt
  rw [val_four]
  unfold fourB
  rw [show (16777216 * b0.toNat + 65536 * b1.toNat + 256 * b2.toNat + b3.toNat) / 16777216 % 256 = b0.toNat from by omega,
    show (16777216 * b0.toNat + 65536 * b1.toNat + 256 * b2.toNat + b3.toNat) / 65536 % 256 = b1.toNat from by omega,
    show (16777216 * b0.toNat + 65536 * b1.toNat + 256 * b2.toNat + b3.toNat) / 256 % 256 = b2.toNat from by omega,
    show (16777216 * b0.toNat + 65536 * b1.toNat + 256 * b2.toNat + b3.toNat) % 256 = b3.toNat from by omega]
  simp
theorem wrd_four (b0 b1 b2 b3 : UInt8) : wrdB (Lib.decDigits (valB [b0, b1, b2, b3])) = true ∧ uN (Lib.decDigits (valB [b0, b1, b2, b3])) = valB [b0, b1, b2, b3] := by
  have h0 := b0.toNat_lt
  have h1 := b1.toNat_lt
  have h2 := b2.toNat_lt
  have h3 := b3.toNat_lt
  have hv : valB [b0, b1, b2, b3] ≤ 4294967295 := by rw [val_four]; omega
  have hp : Lib.parseUintB 32 (Lib.decDigits (valB [b0, b1, b2, b3])) = .ok (valB [b0, b1, b2, b3]) := by
    unfold Lib.parseUintB
    rw [if_neg (dec_ne _)]
    exact pm_dec _ _ (by decide) (by simpa using hv)
  have hu : uN (Lib.decDigits (valB [b0, b1, b2, b3])) = valB [b0, b1, b2, b3] := by unfold uN; rw [hp]
  refine ⟨?_, hu⟩
  unfold wrdB uB
  rw [hu, hp]
  simp
/-- no line feed, no colon, no '@' -/
def plainC (c : UInt8) : Prop := c ≠ 10 ∧ c ≠ 58 ∧ c ≠ 64
instance (c : UInt8) : Decidable (plainC c) := by unfold plainC; infer_instance
theorem nams_plain : ∀ l ∈ nams, ∀ c ∈ l, plainC c := by decide
theorem nam_plain (op : Int) : ∀ c ∈ nam op, plainC c := by
  intro c hc
  unfold nam at hc
  rw [List.getD_eq_getElem?_getD] at hc
  cases h : nams[op.toNat]? with
  | none => rw [h] at hc; cases hc
  | some l => rw [h] at hc; exact nams_plain l (List.mem_of_getElem? h) c hc
theorem itoa_plain (n : Int) : ∀ c ∈ Lib.itoa n, plainC c := fun c hc => ⟨itoa_no n 10 (by decide) c hc, itoa_no n 58 (by decide) c hc, itoa_no n 64 (by decide) c hc⟩
theorem reg_plain (n : Int) : ∀ c ∈ regS n, plainC c := by
  intro c hc
  unfold regS at hc
  rcases List.mem_append.1 hc with hc | hc
  · exact (show ∀ c ∈ ([32, 114] : Bs), plainC c by decide) c hc
  · exact itoa_plain n c hc
theorem prn_plain (i : In) : ∀ c ∈ prnI i, plainC c := by
  intro c hc
  unfold prnI at hc
  rcases List.mem_append.1 hc with hc | hc
  · rcases List.mem_append.1 hc with hc | hc
    · rcases List.mem_append.1 hc with hc | hc
      · exact nam_plain _ c hc
      · split at hc
        · exact reg_plain _ c hc
        · cases hc
    · split at hc
      · exact reg_plain _ c hc
      · cases hc
  · split at hc
    · rcases List.mem_append.1 hc with hc | hc
      · obtain rfl := List.mem_singleton.1 hc; decide
      · exact itoa_plain _ c hc
    · cases hc
theorem lin_plain (q : Bs) : ∀ c ∈ linS q, plainC c := by
  unfold linS
  split
  · exact prn_plain _
  · intro c hc
    rcases List.mem_append.1 hc with hc | hc
    · exact (show ∀ c ∈ wordL, plainC c by decide) c hc
    · have := dec_digit _ c hc
      refine ⟨?_, ?_, ?_⟩ <;> (rintro rfl; revert this; decide)
/-- the text of an instruction is no word line -/
theorem prn_noword (i : In) (h : okI i = true) : Lib.hasPrefix (prnI i) wordL = false := by
  cases hp : Lib.hasPrefix (prnI i) wordL with
  | false => rfl
  | true =>
    exfalso
    have hr := par_prn i h
    obtain ⟨t, ht⟩ : ∃ t, prnI i = wordL ++ t := by
      have h1 : wordL.isPrefixOf (prnI i) = true := hp
      obtain ⟨t, ht⟩ := List.isPrefixOf_iff_prefix.1 h1
      exact ⟨t, ht.symm⟩
    rw [ht] at hr
    unfold parP readP at hr
    have hc : (cutB 32 (wordL ++ t)).1 = [119, 111, 114, 100] := by
      show (cutB 32 ([119, 111, 114, 100] ++ 32 :: t)).1 = _
      rw [cutB_at 32 _ _ (by decide)]
    rw [hc, show numP [119, 111, 114, 100] = none from by decide] at hr
    cases hr
theorem bof_lin (q : Bs) (h : q.length = 4) : bofP (linS q) = some (q, []) := by
  match q, h with
  | [b0, b1, b2, b3], _ =>
    unfold linS
    cases hd : decS [b0, b1, b2, b3] with
    | some i =>
      obtain ⟨hok, he⟩ := dec_some hd
      dsimp only
      unfold bofP
      rw [if_neg (by rw [prn_noword i hok]; decide)]
      unfold insP
      rw [cutB_no 64 (prnI i) (fun c hc => (prn_plain i c hc).2.2), if_pos rfl, par_prn i hok]
      simp [he]
    | none =>
      dsimp only
      unfold bofP
      obtain ⟨hw, hu⟩ := wrd_four b0 b1 b2 b3
      have hp : Lib.hasPrefix (wordL ++ Lib.decDigits (valB [b0, b1, b2, b3])) wordL = true := List.isPrefixOf_iff_prefix.2 ⟨_, rfl⟩
      have ht : Lib.trimPrefix (wordL ++ Lib.decDigits (valB [b0, b1, b2, b3])) wordL = Lib.decDigits (valB [b0, b1, b2, b3]) := by
        unfold Lib.trimPrefix
        rw [if_pos hp, List.drop_left]
      rw [if_pos hp, ht, if_pos hw, hu, four_val]
theorem lin_ne (q : Bs) (h : q.length = 4) : linS q ≠ [] := by
  intro e
  have := bof_lin q h
  rw [e] at this
  revert this
  have hn : bofP [] = none := by decide
  rw [hn]
  intro h; cases h
theorem lin_nocolon (q : Bs) : Lib.hasSuffix (linS q) [58] = false := by
  cases hs : Lib.hasSuffix (linS q) [58] with
  | false => rfl
  | true =>
    exfalso
    obtain ⟨t, ht⟩ := List.isSuffixOf_iff_suffix.1 (show ([58] : Bs).isSuffixOf (linS q) = true from hs)
    exact (lin_plain q 58 (by rw [← ht]; simp)).2.1 rfl
theorem add_lin (S : St) (q : Bs) (num : Int) (h : q.length = 4) (hl : S.prog.length + 4 ≤ 4096) : addP S (linS q) num = .inr { S with prog := S.prog ++ q } := by
  unfold addP
  rw [if_neg (lin_ne q h), if_neg (by rw [lin_nocolon q]; decide), bof_lin q h]
  dsimp only
  rw [if_neg (by omega), if_pos rfl]
theorem adds_lin : ∀ (qs : List Bs) (S : St) (n : Nat), (∀ q ∈ qs, q.length = 4) → S.prog.length + 4 * qs.length ≤ 4096 → addsP S n (qs.map linS) = .inr { S with prog := S.prog ++ qs.flatten }
  | [], S, n, _, _ => by simp [addsP]
  | q :: r, S, n, h, hl => by
    rw [List.length_cons] at hl
    have h4 := h q (by simp)
    rw [List.map_cons]
    unfold addsP
    rw [add_lin S q _ h4 (by omega)]
    dsimp only
    rw [adds_lin r _ (n + 1) (fun x hx => h x (by simp [hx])) (by dsimp only; rw [List.length_append]; omega)]
    simp
/-- WHAT IS LISTED OF A PROGRAM IS ASSEMBLED TO THAT PROGRAM. -/
theorem asm_lis (l : Bs) (h : l.length % 4 = 0) (hl : l.length ≤ 4096) : asmP (linesB (lisP l)) = .inr l := by
  have hw : 4 * (wordsB l).length = l.length := by
    have e := congrArg List.length (words_join l h)
    rw [List.length_flatten] at e
    have : ∀ (qs : List Bs), (∀ q ∈ qs, q.length = 4) → (qs.map List.length).sum = 4 * qs.length := by
      intro qs
      induction qs with
      | nil => intro _; rfl
      | cons q r ih => intro hq; rw [List.map_cons, List.sum_cons, ih (fun x hx => hq x (by simp [hx])), hq q (by simp), List.length_cons]; omega
    rw [this _ (words_four l)] at e
    exact e
  have hj := lines_join ((wordsB l).map linS) [] (fun a ha => by
    obtain ⟨q, hq, rfl⟩ := List.mem_map.1 ha
    exact fun hc => (lin_plain q 10 hc).1 rfl)
  rw [List.append_nil] at hj
  rw [lis_lines, hj]
  unfold asmP
  rw [show linesB [] = [] from rfl, List.append_nil, adds_lin _ newSt 0 (words_four l) (by simp [newSt]; omega), words_join l h]
  simp [newSt, leadsP]
end Go.Proofs.YtmclcobklcjmnaaDoor
