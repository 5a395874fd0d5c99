/- An instruction is read from its text as what it was: nothing of the program. No conditions. -/
import Derived.Test.YtmclcobklcjmnaaDoorMat
namespace Go.Proofs.YtmclcobklcjmnaaDoor
set_option linter.unusedVariables false
set_option linter.unusedSimpArgs false

theorem pu_append : ∀ (l r : Bs) (acc v : Nat), Lib.parseUint10 acc l = .ok v → Lib.parseUint10 acc (l ++ r) = Lib.parseUint10 v r
  | [], r, acc, v, h => by
    simp only [Lib.parseUint10] at h
    injection h with h
    rw [h, List.nil_append]
  | c :: l, r, acc, v, h => by
    simp only [List.cons_append, Lib.parseUint10] at h ⊢
    split at h
    · rename_i hc
      rw [if_pos hc]
      split at h
      · cases h
      · rename_i h1
        rw [if_neg h1]
        split at h
        · cases h
        · rename_i h2
          rw [if_neg h2]
          exact pu_append l r _ v h
    · cases h
theorem dec_ne (u : Nat) : Lib.decDigits u ≠ [] := by
  rw [Lib.decDigits]
  split <;> simp
theorem pu_dec (u : Nat) (h : u < 18446744073709551616) : Lib.parseUint10 0 (Lib.decDigits u) = .ok u := by
  induction u using Nat.strongRecOn with
  | ind u ih =>
    rw [Lib.decDigits]
    by_cases hu : u < 10
    · rw [dif_pos hu]
      have e : (UInt8.ofNat (48 + u)).toNat = 48 + u := by simp; omega
      simp only [Lib.parseUint10]
      rw [e, if_pos (by omega), if_neg (by omega), if_neg (by omega)]
      congr 1
      omega
    · rw [dif_neg hu, pu_append _ _ _ _ (ih (u / 10) (by omega) (by omega))]
      have e : (UInt8.ofNat (48 + u % 10)).toNat = 48 + u % 10 := by simp; omega
      simp only [Lib.parseUint10]
      rw [e, if_pos (by omega), if_neg (by omega), if_neg (by omega)]
      congr 1
      omega
theorem mag_dec (u : Nat) (h : u < 18446744073709551616) : Lib.parseMag (Lib.decDigits u) = .ok u := by
  unfold Lib.parseMag
  rw [if_neg (dec_ne u), pu_dec u h]
/-- each is a digit -/
theorem dec_digit (u : Nat) : ∀ c ∈ Lib.decDigits u, 48 ≤ c.toNat ∧ c.toNat ≤ 57 := by
  induction u using Nat.strongRecOn with
  | ind u ih =>
    intro c hc
    rw [Lib.decDigits] at hc
    by_cases hu : u < 10
    · rw [dif_pos hu] at hc
      obtain rfl := List.mem_singleton.1 hc
      have e : (UInt8.ofNat (48 + u)).toNat = 48 + u := by simp; omega
      omega
    · rw [dif_neg hu] at hc
      rcases List.mem_append.1 hc with hc | hc
      · exact ih (u / 10) (by omega) c hc
      · obtain rfl := List.mem_singleton.1 hc
        have e : (UInt8.ofNat (48 + u % 10)).toNat = 48 + u % 10 := by simp; omega
        omega
theorem atoi_itoa (n : Int) (h0 : -9223372036854775808 ≤ n) (h1 : n ≤ 9223372036854775807) : Lib.atoiAll (Lib.itoa n) = .ok n := by
  unfold Lib.itoa
  by_cases hn : n < 0
  · rw [if_pos hn]
    unfold Lib.atoiAll
    dsimp only
    rw [if_pos (.inr rfl), mag_dec _ (by omega)]
    simp only [show (45 : UInt8).toNat = 45 from rfl, not_true_eq_false, false_and, if_false, true_and, if_true]
    rw [if_neg (by omega)]
    congr 1
    omega
  · rw [if_neg hn]
    obtain ⟨c, l, e⟩ : ∃ c l, Lib.decDigits n.toNat = c :: l := by
      cases e : Lib.decDigits n.toNat with
      | nil => exact absurd e (dec_ne _)
      | cons c l => exact ⟨c, l, rfl⟩
    have hd := dec_digit n.toNat c (by rw [e]; exact List.mem_cons_self)
    have hm := mag_dec n.toNat (by omega)
    rw [e] at hm ⊢
    unfold Lib.atoiAll
    dsimp only
    rw [if_neg (by omega), hm]
    dsimp only
    rw [if_neg (by omega), if_neg (by omega), if_neg (by omega)]
    congr 1
    omega
theorem itoa_mem (n : Int) : ∀ c ∈ Lib.itoa n, c = 45 ∨ (48 ≤ c.toNat ∧ c.toNat ≤ 57) := by
  intro c hc
  unfold Lib.itoa at hc
  split at hc
  · rcases List.mem_cons.1 hc with rfl | hc
    · exact .inl rfl
    · exact .inr (dec_digit _ c hc)
  · exact .inr (dec_digit _ c hc)
theorem itoa_no (n : Int) (x : UInt8) (hx : x.toNat < 45 ∨ 57 < x.toNat) : ∀ c ∈ Lib.itoa n, c ≠ x := by
  intro c hc e
  subst e
  rcases itoa_mem n c hc with rfl | h
  · revert hx; decide
  · omega
theorem itoa_ne (n : Int) : Lib.itoa n ≠ [] := by
  unfold Lib.itoa
  split
  · simp
  · exact dec_ne _
theorem cutB_no (x : UInt8) : ∀ (w : Bs), (∀ c ∈ w, c ≠ x) → cutB x w = (w, [], false)
  | [], _ => rfl
  | c :: w, h => by
    unfold cutB
    rw [if_neg (h c List.mem_cons_self), cutB_no x w (fun d hd => h d (List.mem_cons_of_mem _ hd))]
theorem cutB_at (x : UInt8) : ∀ (w r : Bs), (∀ c ∈ w, c ≠ x) → cutB x (w ++ x :: r) = (w, r, true)
  | [], r, _ => by simp [cutB]
  | c :: w, r, h => by
    rw [List.cons_append, cutB, if_neg (h c List.mem_cons_self), cutB_at x w r (fun d hd => h d (List.mem_cons_of_mem _ hd))]
theorem nam_no (op : Int) (h0 : 0 ≤ op) (h1 : op < 30) (x : UInt8) (hx : x = 32 ∨ x = 64 ∨ x = 58 ∨ x = 10) : ∀ c ∈ nam op, c ≠ x := by
  have := ops_all (fun op => ((nam op).all fun c => c != 32 && c != 64 && c != 58 && c != 10) = true) (by decide +kernel) op h0 h1
  intro c hc e
  have := List.all_eq_true.1 this c hc
  rcases hx with rfl | rfl | rfl | rfl <;> simp [e] at this
theorem num_nam (op : Int) (h0 : 0 ≤ op) (h1 : op < 30) : numP (nam op) = some op.toNat :=
  ops_all (fun op => numP (nam op) = some op.toNat) (by decide +kernel) op h0 h1
theorem has12 (op : Int) (h0 : 0 ≤ op) (h1 : op < 30) : hasF (frm op) 12 = false → leastF (frm op) = 0 ∧ mostF (frm op) = 0 :=
  ops_all (fun op => hasF (frm op) 12 = false → leastF (frm op) = 0 ∧ mostF (frm op) = 0) (by decide +kernel) op h0 h1
theorem has2 (op : Int) (h0 : 0 ≤ op) (h1 : op < 30) : hasF (frm op) 2 = true → hasF (frm op) 1 = true :=
  ops_all (fun op => hasF (frm op) 2 = true → hasF (frm op) 1 = true) (by decide +kernel) op h0 h1
theorem word_reg (n : Int) (k : Nat) (i : In) (hk : k < 2) (h : 0 ≤ n ∧ n < 16) : wordI (114 :: Lib.itoa n) k i = some (k + 1, if k = 0 then { i with a := n } else { i with b := n }) := by
  unfold wordI
  rw [if_pos ⟨rfl, hk⟩, List.tail_cons, atoi_itoa n (by omega) (by omega)]
  rfl
theorem word_num (n : Int) (k : Nat) (i : In) (h : -32768 ≤ n ∧ n ≤ 65535) : wordI (Lib.itoa n) k i = some (k, { i with imm := n }) := by
  unfold wordI
  rw [if_neg, atoi_itoa n (by omega) (by omega)]
  · rfl
  · rintro ⟨e, _⟩
    have : (114 : UInt8) ∈ Lib.itoa n := by
      cases hl : Lib.itoa n with
      | nil => rw [hl] at e; cases e
      | cons c l => rw [hl] at e; cases e; exact List.mem_cons_self
    exact itoa_no n 114 (by decide) 114 this rfl
theorem rd_last (w : Bs) (k : Nat) (i : In) (hw : ∀ c ∈ w, c ≠ 32) : rdW w k i = (wordI w k i).map (·.2) := by
  rw [rdW, cutB_no 32 w hw]
  cases h : wordI w k i <;> simp [h]
theorem rd_more (w r : Bs) (k : Nat) (i : In) (hw : ∀ c ∈ w, c ≠ 32) : rdW (w ++ 32 :: r) k i = (wordI w k i).bind fun x => rdW r x.1 x.2 := by
  rw [rdW, cutB_at 32 w r hw]
  cases h : wordI w k i <;> simp [h]
theorem reg_no (n : Int) : ∀ c ∈ (114 : UInt8) :: Lib.itoa n, c ≠ 32 := by
  intro c hc
  rcases List.mem_cons.1 hc with rfl | hc
  · decide
  · exact itoa_no n 32 (by decide) c hc
theorem read_prn (i : In) (h : okI i = true) : readP (prnI i) = some i := by
  rw [okI_iff] at h
  obtain ⟨⟨h0, h1⟩, hf⟩ := h
  have hi := imm_range hf
  rw [fits_iff] at hf
  obtain ⟨ha, hb, hl, hm⟩ := hf
  have ra := mayN_range ha
  have rb := mayN_range hb
  have n12 := has12 i.op h0 h1
  have n2 := has2 i.op h0 h1
  have nn := nam_no i.op h0 h1 32 (.inl rfl)
  have nm := num_nam i.op h0 h1
  rw [mayN_iff] at ha hb
  obtain ⟨op, a, b, imm⟩ := i
  dsimp only at *
  unfold prnI readP
  dsimp only
  generalize hasF (frm op) 1 = f1 at *
  generalize hasF (frm op) 2 = f2 at *
  generalize hasF (frm op) 12 = f12 at *
  have eop : ((op.toNat : Nat) : Int) = op := by omega
  have N := itoa_no imm 32 (by decide)
  cases f1
  · cases f2
    · have ea : a = 0 := by simpa using ha
      have eb : b = 0 := by simpa using hb
      subst ea eb
      cases f12
      · have := n12 rfl
        simp only [Bool.false_eq_true, if_false, List.append_nil]
        rw [cutB_no 32 _ nn]
        simp only [nm, Bool.false_eq_true, if_false, eop]
        rw [show imm = 0 from by omega]
      · simp only [Bool.false_eq_true, if_false, List.append_nil, if_true, List.singleton_append]
        rw [cutB_at 32 _ _ nn]
        simp only [nm, if_true, eop]
        rw [rd_last _ _ _ N, word_num imm _ _ hi]
        rfl
    · exact absurd (n2 rfl) (by simp)
  · have ea : 0 ≤ a ∧ a < 16 := ra
    cases f2
    · have eb : b = 0 := by simpa using hb
      subst eb
      cases f12
      · have := n12 rfl
        simp only [Bool.false_eq_true, if_false, if_true, List.append_nil, regS, List.cons_append, List.nil_append]
        rw [cutB_at 32 _ _ nn]
        simp only [nm, if_true, eop]
        rw [rd_last _ _ _ (reg_no a), word_reg a _ _ (by omega) ea, show imm = 0 from by omega]
        rfl
      · simp only [Bool.false_eq_true, if_false, if_true, List.append_nil, regS, List.cons_append, List.nil_append, List.append_assoc]
        rw [cutB_at 32 _ _ nn]
        simp only [nm, if_true, eop]
        rw [← List.cons_append, rd_more _ _ _ _ (reg_no a), word_reg a _ _ (by omega) ea]
        simp only [Option.bind_some]
        rw [rd_last _ _ _ N, word_num imm _ _ hi]
        rfl
    · have eb : 0 ≤ b ∧ b < 16 := rb
      cases f12
      · have := n12 rfl
        simp only [Bool.false_eq_true, if_false, if_true, List.append_nil, regS, List.cons_append, List.nil_append, List.append_assoc]
        rw [cutB_at 32 _ _ nn]
        simp only [nm, if_true, eop]
        rw [← List.cons_append, rd_more _ _ _ _ (reg_no a), word_reg a _ _ (by omega) ea]
        simp only [Option.bind_some]
        rw [rd_last _ _ _ (reg_no b), word_reg b _ _ (by omega) eb, show imm = 0 from by omega]
        rfl
      · simp only [Bool.false_eq_true, if_false, if_true, List.append_nil, regS, List.cons_append, List.nil_append, List.append_assoc]
        rw [cutB_at 32 _ _ nn]
        simp only [nm, if_true, eop]
        rw [← List.cons_append, rd_more _ _ _ _ (reg_no a), word_reg a _ _ (by omega) ea]
        simp only [Option.bind_some]
        rw [← List.cons_append, rd_more _ _ _ _ (reg_no b), word_reg b _ _ (by omega) eb]
        simp only [Option.bind_some]
        rw [rd_last _ _ _ N, word_num imm _ _ hi]
        rfl
theorem par_prn (i : In) (h : okI i = true) : parP (prnI i) = some i := by
  unfold parP
  rw [read_prn i h]
  dsimp only
  rw [if_pos ⟨h, rfl⟩]
theorem par_some {s : Bs} {i : In} (h : parP s = some i) : okI i = true ∧ prnI i = s := by
  unfold parP at h
  split at h
  · cases h
  · split at h
    · rename_i hh
      obtain rfl := Option.some.inj h
      exact hh
    · cases h
end Go.Proofs.YtmclcobklcjmnaaDoor
