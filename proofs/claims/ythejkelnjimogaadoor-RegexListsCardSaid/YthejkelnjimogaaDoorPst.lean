/- A set is read from its pattern as what it was: plain facts. No conditions but that its numbers are a machine's. -/
import Derived.Test.YthejkelnjimogaaDoorPat
import Derived.Test.YthejkelnjimogaaDoorPrl
namespace Go.Proofs.YthejkelnjimogaaDoor
open Go.RowKit
set_option linter.unusedVariables false

theorem S4.word_put (s : S4) (b q : Nat) (hb : b ≤ 255) (hq : q ≤ 3) : (s.put b).word q = if q = b / 64 then s.word q ||| 2 ^ (b % 64) else s.word q := by
  have qb : b / 64 = 0 ∨ b / 64 = 1 ∨ b / 64 = 2 ∨ b / 64 = 3 := by omega
  have qc : q = 0 ∨ q = 1 ∨ q = 2 ∨ q = 3 := by omega
  unfold S4.put S4.word
  generalize b / 64 = p at *
  rcases qb with rfl | rfl | rfl | rfl <;> rcases qc with rfl | rfl | rfl | rfl <;> rfl
theorem S4.has_put (s : S4) (b c : Nat) (hb : b ≤ 255) (hc : c ≤ 255) : (s.put b).has c = (decide (c = b) || s.has c) := by
  unfold S4.has
  rw [S4.word_put s b _ hb (by omega)]
  by_cases h : c / 64 = b / 64
  · rw [if_pos h, Nat.testBit_or, Nat.testBit_two_pow, Bool.or_comm]
    congr 1
    rw [decide_eq_decide]
    omega
  · rw [if_neg h]
    have : decide (c = b) = false := by simp; intro e; subst e; exact h rfl
    rw [this]; rfl
theorem S4.zero_has (c : Nat) : S4.zero.has c = false := by
  unfold S4.has S4.word S4.zero
  split <;> simp
theorem S4.has_withN (s : S4) (lo : Nat) : ∀ (n c : Nat), lo + n ≤ 256 → c ≤ 255 → (s.withN lo n).has c = ((decide (lo ≤ c) && decide (c < lo + n)) || s.has c)
  | 0, c, _, _ => by
    rw [S4.withN]
    have : (decide (lo ≤ c) && decide (c < lo + 0)) = false := by
      cases h : (decide (lo ≤ c) && decide (c < lo + 0)) with
      | false => rfl
      | true => simp at h; omega
    rw [this]; rfl
  | n + 1, c, h, hc => by
    rw [S4.withN, S4.has_put _ _ _ (by omega) hc, S4.has_withN s lo n c (by omega) hc]
    rw [← Bool.or_assoc]
    congr 1
    rw [Bool.eq_iff_iff]
    simp
    omega
theorem S4.has_with (s : S4) (lo hi c : Nat) (h : lo ≤ hi) (h2 : hi ≤ 255) (hc : c ≤ 255) : (s.with lo hi).has c = ((decide (lo ≤ c) && decide (c ≤ hi)) || s.has c) := by
  unfold S4.with
  rw [S4.has_withN s lo _ c (by omega) hc]
  congr 2
  rw [decide_eq_decide]
  omega
theorem word_ext (a b : Nat) (ha : a < 18446744073709551616) (hb : b < 18446744073709551616) (h : ∀ j < 64, a.testBit j = b.testBit j) : a = b := by
  apply Nat.eq_of_testBit_eq
  intro j
  by_cases hj : j < 64
  · exact h j hj
  · have h2 : (2 : Nat) ^ 64 ≤ 2 ^ j := Nat.pow_le_pow_right (by omega) (by omega)
    rw [Nat.testBit_lt_two_pow (x := a) (by omega), Nat.testBit_lt_two_pow (x := b) (by omega)]
theorem S4.ext_has {s t : S4} (hs : s.ok) (ht : t.ok) (h : ∀ c, c ≤ 255 → s.has c = t.has c) : s = t := by
  obtain ⟨a, b, c, d⟩ := s
  obtain ⟨a', b', c', d'⟩ := t
  obtain ⟨s1, s2, s3, s4⟩ := hs
  obtain ⟨t1, t2, t3, t4⟩ := ht
  dsimp only at s1 s2 s3 s4 t1 t2 t3 t4
  have e1 : a = a' := word_ext _ _ s1 t1 fun j hj => by
    have := h j (by omega)
    unfold S4.has S4.word at this
    rw [show j / 64 = 0 by omega, show j % 64 = j by omega] at this
    exact this
  have e2 : b = b' := word_ext _ _ s2 t2 fun j hj => by
    have := h (64 + j) (by omega)
    unfold S4.has S4.word at this
    rw [show (64 + j) / 64 = 1 by omega, show (64 + j) % 64 = j by omega] at this
    exact this
  have e3 : c = c' := word_ext _ _ s3 t3 fun j hj => by
    have := h (128 + j) (by omega)
    unfold S4.has S4.word at this
    rw [show (128 + j) / 64 = 2 by omega, show (128 + j) % 64 = j by omega] at this
    exact this
  have e4 : d = d' := word_ext _ _ s4 t4 fun j hj => by
    have := h (192 + j) (by omega)
    unfold S4.has S4.word at this
    rw [show (192 + j) / 64 = 3 by omega, show (192 + j) % 64 = j by omega] at this
    exact this
  rw [e1, e2, e3, e4]
theorem hexP_hexC (q : Nat) (h : q < 16) (l : Bs) : hexP (hexC q :: l) = some (q, l) := by
  have : q = 0 ∨ q = 1 ∨ q = 2 ∨ q = 3 ∨ q = 4 ∨ q = 5 ∨ q = 6 ∨ q = 7 ∨ q = 8 ∨ q = 9 ∨ q = 10 ∨ q = 11 ∨ q = 12 ∨ q = 13 ∨ q = 14 ∨ q = 15 := by omega
  rcases this with rfl | rfl | rfl | rfl | rfl | rfl | rfl | rfl | rfl | rfl | rfl | rfl | rfl | rfl | rfl | rfl <;> rfl
theorem bars : ∀ b < 256, inB letBar (UInt8.ofNat b) = false → inB setBar (UInt8.ofNat b) = false ∧ inB rowBar (UInt8.ofNat b) = false ∧ (UInt8.ofNat b == 92) = false := by decide +kernel
theorem letx : ∀ b < 256, inB letBar (UInt8.ofNat b) = true → (UInt8.ofNat b == 120) = false := by decide +kernel
/-- a byte is read as it is told -/
theorem byteP_bytS (bar : Bs) (hbar : bar = setBar ∨ bar = rowBar) (b : Nat) (hb : b ≤ 255) (l : Bs) : byteP bar (bytS b ++ l) = some (b, l) := by
  unfold bytS
  have hn : (UInt8.ofNat b).toNat = b := by simp; omega
  split
  · show byteP bar (92 :: 120 :: hexC (b / 16) :: hexC (b % 16) :: l) = _
    have h1 := hexP_hexC (b / 16) (by omega) (hexC (b % 16) :: l)
    have h2 := hexP_hexC (b % 16) (by omega) l
    simp only [byteP, escP]
    rw [if_pos (by decide), if_pos (by decide), h1]
    dsimp only
    rw [h2]
    simp only [Option.some.injEq, Prod.mk.injEq, and_true]
    omega
  · split
    · rename_i hl
      show byteP bar (92 :: UInt8.ofNat b :: l) = _
      simp only [byteP, escP]
      rw [if_pos (by decide), if_neg (by rw [letx b (by omega) hl]; simp), if_pos hl, hn]
    · rename_i hl
      have hl' : inB letBar (UInt8.ofNat b) = false := by simpa using hl
      obtain ⟨g1, g2, g3⟩ := bars b (by omega) hl'
      show byteP bar (UInt8.ofNat b :: l) = _
      simp only [byteP]
      rw [if_neg (by rw [g3]; simp), if_neg (by rcases hbar with rfl | rfl <;> simp [g1, g2]), hn]
/-- how a byte's text begins: with none of the signs -/
def goodC (c : UInt8) : Bool := !(c == 41 || c == 124 || c == 42 || c == 43 || c == 63 || c == 123 || c == 125 || c == 93 || c == 94 || c == 45)
theorem bytS_head0 : ∀ b < 256, (match bytS b with | [] => false | c :: _ => goodC c && !(c == 40) && !(c == 91) && !(c == 46)) = true := by decide +kernel
theorem bytS_head (b : Nat) (hb : b ≤ 255) : ∃ c l, bytS b = c :: l ∧ goodC c = true ∧ (c == 40) = false ∧ (c == 91) = false ∧ (c == 46) = false := by
  have := bytS_head0 b (by omega)
  cases h : bytS b with
  | nil => rw [h] at this; cases this
  | cons c l =>
    rw [h] at this
    simp only [Bool.and_eq_true, Bool.not_eq_true'] at this
    exact ⟨c, l, rfl, this.1.1.1, this.1.1.2, this.1.2, this.2⟩
theorem goodC_ne {c d : UInt8} (h : goodC c = true) (hd : d = 41 ∨ d = 124 ∨ d = 42 ∨ d = 43 ∨ d = 63 ∨ d = 123 ∨ d = 125 ∨ d = 93 ∨ d = 94 ∨ d = 45) : (c == d) = false := by
  unfold goodC at h
  simp only [Bool.not_eq_true', Bool.or_eq_false_iff] at h
  obtain ⟨⟨⟨⟨⟨⟨⟨⟨⟨a, b⟩, c1⟩, d1⟩, e⟩, f⟩, g⟩, h1⟩, i⟩, j⟩ := h
  rcases hd with rfl | rfl | rfl | rfl | rfl | rfl | rfl | rfl | rfl | rfl <;> assumption
theorem isNext_app {c d : UInt8} {l m : Bs} : isNext d ((c :: l) ++ m) = (c == d) := rfl
/-- a text that does not go on with a sign of a set -/
def calm (l : Bs) : Prop := isNext 45 l = false
theorem spanP_one (b : Nat) (hb : b ≤ 255) (l : Bs) (h : isNext 45 l = false) : spanP (bytS b ++ l) = some (b, b, l) := by
  unfold spanP
  rw [byteP_bytS setBar (.inl rfl) b hb l]
  dsimp only
  rw [h]
  rfl
theorem spanP_two (a b : Nat) (ha : a ≤ 255) (hb : b ≤ 255) (hab : a ≤ b) (l : Bs) : spanP (bytS a ++ 45 :: (bytS b ++ l)) = some (a, b, l) := by
  unfold spanP
  rw [byteP_bytS setBar (.inl rfl) a ha _]
  dsimp only
  rw [if_pos (by rfl)]
  show (match byteP setBar (bytS b ++ l) with | none => none | some (hi, l2) => if hi < a then none else some (a, hi, l2)) = _
  rw [byteP_bytS setBar (.inl rfl) b hb l]
  dsimp only
  rw [if_neg (by omega)]
theorem topS_has (s : S4) : ∀ (f h b : Nat), s.has h = true → h ≤ b → b ≤ topS s f h → s.has b = true
  | 0, h, b, hh, h1, h2 => by
    rw [topS] at h2
    have : b = h := by omega
    subst this; exact hh
  | f + 1, h, b, hh, h1, h2 => by
    rw [topS] at h2
    split at h2
    · rename_i q
      by_cases e : b = h
      · subst e; exact hh
      · exact topS_has s f (h + 1) b q.2 (by omega) h2
    · have : b = h := by omega
      subst this; exact hh
/-- the sets agree below a byte -/
def agree (s T : S4) (low : Nat) : Prop := ∀ c, c ≤ 255 → T.has c = (s.has c && decide (c < low))
theorem agree_skip {s T : S4} {low : Nat} (h : agree s T low) (hl : s.has low = false) : agree s T (low + 1) := fun c hc => by
  rw [h c hc]
  by_cases e : c = low
  · subst e; rw [hl]; rfl
  · congr 1; rw [decide_eq_decide]; omega
theorem agree_row {s T : S4} {low H : Nat} (h : agree s T low) (hb : ∀ b, low ≤ b → b ≤ H → s.has b = true) (h1 : low ≤ H) (h2 : H ≤ 255) : agree s (T.with low H) (H + 1) := fun c hc => by
  rw [S4.has_with _ _ _ _ h1 h2 hc, h c hc]
  by_cases e1 : c < low
  · rw [show decide (low ≤ c) = false by simp; omega, show decide (c < low) = true by simp; omega, show decide (c < H + 1) = true by simp; omega]; simp
  · by_cases e2 : c ≤ H
    · rw [hb c (by omega) e2, show decide (low ≤ c) = true by simp; omega, show decide (c ≤ H) = true by simp; omega, show decide (c < H + 1) = true by simp; omega]; simp
    · rw [show decide (c ≤ H) = false by simp; omega, show decide (c < low) = false by simp; omega, show decide (c < H + 1) = false by simp; omega]; simp
theorem agree_all {s T : S4} {low : Nat} (hs : s.ok) (hT : T.ok) (h : agree s T low) (hn : ∀ b, low ≤ b → b ≤ 255 → s.has b = false) : T = s :=
  S4.ext_has hT hs fun c hc => by
    rw [h c hc]
    by_cases e : c < low
    · simp [e]
    · rw [hn c (by omega) hc]; rfl
theorem with_with {T : S4} {a b : Nat} (hT : T.ok) (hab : a + 1 = b) (hb : b ≤ 255) : (T.with a a).with b b = T.with a b :=
  S4.ext_has ((hT.with' a a).with' b b) (hT.with' a b) fun c hc => by
    rw [S4.has_with _ _ _ _ (Nat.le_refl _) hb hc, S4.has_with _ _ _ _ (Nat.le_refl _) (by omega) hc, S4.has_with _ _ _ _ (by omega) hb hc, ← Bool.or_assoc]
    congr 1
    rw [Bool.eq_iff_iff]
    simp
    omega
/-- one row of a set -/
theorem rowsP_row (T : S4) (hT : T.ok) (low H : Nat) (h1 : low ≤ H) (h2 : H ≤ 255) (X : Bs) (h45 : isNext 45 X = false) (f : Nat) (hf : (rowS low H ++ X).length ≤ f) :
    ∃ g, X.length ≤ g ∧ rowsP f T (rowS low H ++ X) = if isNext 93 X then some (T.with low H, X.tail) else rowsP g (T.with low H) X := by
  have l1 := bytS_len low
  have l2 := bytS_len H
  unfold rowS at hf ⊢
  by_cases e0 : H - low = 0
  · obtain rfl : H = low := by omega
    rw [if_pos (by omega)] at hf ⊢
    rw [List.length_append] at hf
    cases f with
    | zero => omega
    | succ f =>
      refine ⟨f, by omega, ?_⟩
      rw [rowsP, spanP_one H h2 X h45]
  · rw [if_neg e0] at hf ⊢
    by_cases e1 : H - low = 1
    · rw [if_pos e1] at hf ⊢
      rw [List.length_append, List.length_append] at hf
      obtain ⟨c, tl, hc, hg, _⟩ := bytS_head H h2
      have n45 : isNext 45 (bytS H ++ X) = false := by rw [hc]; exact goodC_ne hg (by simp)
      have n93 : isNext 93 (bytS H ++ X) = false := by rw [hc]; exact goodC_ne hg (by simp)
      cases f with
      | zero => omega
      | succ f =>
        cases f with
        | zero => omega
        | succ f =>
          refine ⟨f, by omega, ?_⟩
          rw [List.append_assoc, rowsP, spanP_one low (by omega) _ n45]
          dsimp only
          rw [n93, if_neg (by decide), rowsP, spanP_one H h2 X h45]
          dsimp only
          rw [with_with hT (by omega) h2]
    · rw [if_neg e1] at hf ⊢
      rw [List.length_append, List.length_append, List.length_append] at hf
      cases f with
      | zero => omega
      | succ f =>
        refine ⟨f, by omega, ?_⟩
        rw [show bytS low ++ [45] ++ bytS H ++ X = bytS low ++ 45 :: (bytS H ++ X) by simp, rowsP, spanP_two low H (by omega) h2 h1 X]
theorem rowS_head (low H : Nat) (h : low ≤ 255) : ∃ c tl, rowS low H = c :: tl ∧ goodC c = true := by
  obtain ⟨c, tl, hc, hg, _⟩ := bytS_head low h
  unfold rowS
  rw [hc]
  split
  · exact ⟨c, tl, rfl, hg⟩
  · split
    · exact ⟨c, tl ++ bytS H, rfl, hg⟩
    · exact ⟨c, tl ++ [45] ++ bytS H, rfl, hg⟩
theorem rows_parse (s : S4) (hs : s.ok) : ∀ (n low : Nat), 256 - low = n → low ≤ 256 → ∃ (R : Bs) (m : Nat), (∀ r c, rowsF s low r c = (r ++ R, c + m)) ∧
    ((R = [] ∧ m = 0 ∧ ∀ b, low ≤ b → b ≤ 255 → s.has b = false) ∨
     ((∃ c tl, R = c :: tl ∧ goodC c = true) ∧ 1 ≤ m ∧ (m = 1 → ∃ b, low ≤ b ∧ b ≤ 255 ∧ R = bytS b ∧ ∀ c, low ≤ c → c ≤ 255 → s.has c = decide (c = b)) ∧
       ∀ T : S4, T.ok → agree s T low → ∀ rest f, (R ++ 93 :: rest).length ≤ f → rowsP f T (R ++ 93 :: rest) = some (s, rest))) := by
  intro n
  induction n using Nat.strongRecOn with
  | _ n ih =>
    intro low hn hlow
    by_cases hlt : low < 256
    · cases hh : s.has low with
      | false =>
        obtain ⟨R, m, hr, hc⟩ := ih (256 - (low + 1)) (by omega) (low + 1) rfl (by omega)
        refine ⟨R, m, fun r c => by rw [rowsF_skip hlt hh, hr], ?_⟩
        rcases hc with ⟨h1, h2, h3⟩ | ⟨h1, h2, h3, h4⟩
        · refine .inl ⟨h1, h2, fun b hb hb2 => ?_⟩
          by_cases e : b = low
          · subst e; exact hh
          · exact h3 b (by omega) hb2
        · refine .inr ⟨h1, h2, fun hm => ?_, fun T hT ha => h4 T hT (agree_skip ha hh)⟩
          obtain ⟨b, b1, b2, b3, b4⟩ := h3 hm
          refine ⟨b, by omega, b2, b3, fun c hc hc2 => ?_⟩
          by_cases e : c = low
          · subst e; rw [hh]; simp; omega
          · exact b4 c (by omega) hc2
      | true =>
        have hge := topF_ge s (h := low) (by omega)
        have hall2 : ∀ b, low ≤ b → b ≤ topF s low → s.has b = true := fun b h1 h2 => topS_has s _ low b hh h1 h2
        obtain ⟨R, m, hr, hc⟩ := ih (256 - (topF s low + 1)) (by omega) (topF s low + 1) rfl (by omega)
        obtain ⟨H, hH⟩ : ∃ H, topF s low = H := ⟨_, rfl⟩
        have hrow := fun r c => rowsF_row (r := r) (c := c) hlt hh
        rw [hH] at hge hall2 hr hc
        obtain ⟨c0, tl0, hc0, hg0⟩ := rowS_head low H (by omega)
        refine ⟨rowS low H ++ R, (H - low + 1) + m, fun r c => by rw [hrow, hH, hr]; simp [Nat.add_assoc], .inr ⟨⟨c0, tl0 ++ R, by rw [hc0]; rfl, hg0⟩, by omega, fun hm => ?_, fun T hT ha rest f hf => ?_⟩⟩
        · have m0 : m = 0 := by omega
          have hl : H = low := by omega
          rcases hc with ⟨h1, h2, h3⟩ | ⟨h1, h2, _⟩
          · refine ⟨low, Nat.le_refl _, by omega, ?_, fun c hc1 hc2 => ?_⟩
            · rw [h1, hl]; simp [rowS]
            · by_cases e : c = low
              · subst e; rw [hh]; simp
              · rw [h3 c (by omega) hc2]; simp; exact e
          · omega
        · rw [List.append_assoc] at hf ⊢
          have ha2 := agree_row ha hall2 hge.1 hge.2
          have n45 : isNext 45 (R ++ 93 :: rest) = false := by
            rcases hc with ⟨h1, _⟩ | ⟨⟨c, tl, h1, hg⟩, _⟩
            · rw [h1]; rfl
            · rw [h1]; exact goodC_ne hg (by simp)
          obtain ⟨g, hg, he⟩ := rowsP_row T hT low H hge.1 hge.2 (R ++ 93 :: rest) n45 f hf
          rw [he]
          rcases hc with ⟨h1, h2, h3⟩ | ⟨⟨c, tl, h1, hg1⟩, _, _, h4⟩
          · rw [h1]
            rw [if_pos (by rfl)]
            rw [agree_all hs (hT.with' low H) ha2 h3]
            rfl
          · have n93 : isNext 93 (R ++ 93 :: rest) = false := by rw [h1]; exact goodC_ne hg1 (by simp)
            rw [n93, if_neg (by decide)]
            exact h4 _ (hT.with' low H) ha2 rest g hg
    · have : low = 256 := by omega
      refine ⟨[], 0, fun r c => by rw [rowsF_end hlt]; simp, .inl ⟨rfl, rfl, fun b h1 h2 => by omega⟩⟩
theorem S4.full_ok : S4.full.ok := zero_ok.others'
theorem zero_agree (s : S4) : agree s S4.zero 0 := fun c hc => by rw [S4.zero_has]; simp
/-- a set is read from its pattern as what it was -/
theorem atom_set (alt : Bs → Option (Rx × Bs)) (s : S4) (hs : s.ok) (hz : s ≠ S4.zero) (rest : Bs) : atomP alt (setS s ++ rest) = some (anyR s, rest) := by
  unfold setS
  by_cases hf : s = S4.full
  · rw [if_pos hf, hf]; rfl
  · rw [if_neg hf]
    obtain ⟨R, m, hr, hc⟩ := rows_parse s hs 256 0 rfl (by omega)
    rw [hr]
    dsimp only
    rw [Nat.zero_add, List.nil_append]
    rcases hc with ⟨_, _, h3⟩ | ⟨⟨c, tl, hR, hg⟩, h2, h3, h4⟩
    · exact absurd (S4.ext_has hs zero_ok fun c hc => by rw [h3 c (by omega) hc, S4.zero_has]) hz
    · by_cases h1 : m = 1
      · rw [if_pos h1]
        obtain ⟨b, _, b2, b3, b4⟩ := h3 h1
        obtain ⟨c', tl', hc', hg', n1, n2, n3⟩ := bytS_head b b2
        rw [b3]
        have hb := byteP_bytS rowBar (.inr rfl) b b2 rest
        unfold atomP
        have i1 : isNext 40 (bytS b ++ rest) = false := by rw [hc']; exact n1
        have i2 : isNext 91 (bytS b ++ rest) = false := by rw [hc']; exact n2
        have i3 : isNext 46 (bytS b ++ rest) = false := by rw [hc']; exact n3
        rw [i1, i2, i3, hb]
        simp only [Bool.false_eq_true, if_false, Option.some.injEq, Prod.mk.injEq, and_true]
        congr 1
        exact S4.ext_has (zero_ok.with' b b) hs fun c hc => by
          rw [S4.has_with _ _ _ _ (Nat.le_refl _) b2 hc, S4.zero_has, b4 c (by omega) hc, Bool.or_false, Bool.eq_iff_iff]
          simp
          omega
      · rw [if_neg h1]
        have hp : setP (R ++ 93 :: rest) = some (s, rest) := by
          rw [setP_eq, if_neg (by rw [hR]; rw [show isNext 94 (c :: tl ++ 93 :: rest) = (c == 94) from rfl, goodC_ne hg (by simp)]; simp)]
          unfold rowsS
          rw [h4 S4.zero zero_ok (zero_agree s) rest _ (by omega)]
          unfold endS
          simp [hz]
        show atomP alt (91 :: (R ++ [93] ++ rest)) = _
        rw [show R ++ [93] ++ rest = R ++ 93 :: rest by simp]
        unfold atomP
        rw [show isNext 40 (91 :: (R ++ 93 :: rest)) = false from rfl, show isNext 91 (91 :: (R ++ 93 :: rest)) = true from rfl]
        simp only [Bool.false_eq_true, if_false, if_true, List.tail_cons]
        rw [hp]
theorem setS_head (s : S4) (hs : s.ok) (hz : s ≠ S4.zero) : ∃ c l, setS s = c :: l ∧ goodC c = true := by
  unfold setS
  split
  · exact ⟨46, [], rfl, rfl⟩
  · obtain ⟨R, m, hr, hc⟩ := rows_parse s hs 256 0 rfl (by omega)
    rw [hr]
    dsimp only
    rw [List.nil_append]
    rcases hc with ⟨_, _, h3⟩ | ⟨⟨c, tl, hR, hg⟩, _⟩
    · exact absurd (S4.ext_has hs zero_ok fun c hc => by rw [h3 c (by omega) hc, S4.zero_has]) hz
    · split
      · exact ⟨c, tl, hR, hg⟩
      · exact ⟨91, R ++ [93], rfl, rfl⟩
end Go.Proofs.YthejkelnjimogaaDoor
