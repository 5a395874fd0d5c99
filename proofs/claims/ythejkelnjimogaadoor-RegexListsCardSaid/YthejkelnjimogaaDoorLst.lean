/- A set told by its bytes in hexadecimal, in any order: how its text is read, plain facts. No conditions. -/
import Derived.Test.YthejkelnjimogaaDoorPrm
namespace Go.Proofs.YthejkelnjimogaaDoor
open Go.RowKit
set_option linter.unusedVariables false

def hexUp : Bs := [48, 49, 50, 51, 52, 53, 54, 55, 56, 57, 65, 66, 67, 68, 69, 70]
def loC (q : Nat) : UInt8 := hexDig.getD q 0
def upC (q : Nat) : UInt8 := hexUp.getD q 0
def eA (c : Nat) : Bs := [92, 120, loC (c / 16), upC (c % 16)]
def eB (c : Nat) : Bs := [92, 120, upC (c / 16), loC (c % 16)]
theorem hexes : ∀ q < 16, inB hexDig (lowHex (loC q)) = true ∧ (Lib.indexByte hexDig (lowHex (loC q))).toNat = q ∧ inB hexDig (lowHex (upC q)) = true ∧ (Lib.indexByte hexDig (lowHex (upC q))).toNat = q := by decide +kernel
theorem hexP_lo (q : Nat) (h : q < 16) (l : Bs) : hexP (loC q :: l) = some (q, l) := by
  obtain ⟨a, b, _, _⟩ := hexes q h
  unfold hexP; dsimp only; rw [if_pos a, b]
theorem hexP_up (q : Nat) (h : q < 16) (l : Bs) : hexP (upC q :: l) = some (q, l) := by
  obtain ⟨_, _, a, b⟩ := hexes q h
  unfold hexP; dsimp only; rw [if_pos a, b]
/-- a text that is read as the byte c in a set -/
def Eb (e : Nat → Bs) : Prop := ∀ c, c ≤ 255 → (∃ tl, e c = 92 :: tl) ∧ (e c).length = 4 ∧ ∀ l, byteP setBar (e c ++ l) = some (c, l)
theorem Eb_A : Eb eA := fun c hc => ⟨⟨_, rfl⟩, rfl, fun l => by
  show escP (120 :: loC (c / 16) :: upC (c % 16) :: l) = _
  unfold escP
  dsimp only
  rw [if_pos (by rfl), hexP_lo _ (by omega)]
  dsimp only
  rw [hexP_up _ (by omega)]
  dsimp only
  rw [show 16 * (c / 16) + c % 16 = c by omega]⟩
theorem Eb_B : Eb eB := fun c hc => ⟨⟨_, rfl⟩, rfl, fun l => by
  show escP (120 :: upC (c / 16) :: loC (c % 16) :: l) = _
  unfold escP
  dsimp only
  rw [if_pos (by rfl), hexP_up _ (by omega)]
  dsimp only
  rw [hexP_lo _ (by omega)]
  dsimp only
  rw [show 16 * (c / 16) + c % 16 = c by omega]⟩
def catE (e : Nat → Bs) : List Nat → Bs
  | [] => []
  | c :: l => e c ++ catE e l
theorem catE_app (e : Nat → Bs) : ∀ l m, catE e (l ++ m) = catE e l ++ catE e m
  | [], m => rfl
  | c :: l, m => by rw [List.cons_append, catE, catE_app e l m, catE, List.append_assoc]
theorem catE_len {e : Nat → Bs} (h : Eb e) : ∀ l : List Nat, (∀ c ∈ l, c ≤ 255) → (catE e l).length = 4 * l.length
  | [], _ => rfl
  | c :: l, hl => by
    rw [catE, List.length_append, (h c (hl c (by simp))).2.1, catE_len h l (fun d hd => hl d (by simp [hd]))]
    simp; omega
def puts (T : S4) (l : List Nat) : S4 := l.foldl S4.put T
theorem with_put (T : S4) (c : Nat) : T.with c c = T.put c := by
  unfold S4.with
  rw [show c + 1 - c = 1 by omega]
  rfl
theorem rows_told {e : Nat → Bs} (h : Eb e) : ∀ (l : List Nat), l ≠ [] → (∀ c ∈ l, c ≤ 255) → ∀ (T : S4) (rest : Bs), rowsS T (catE e l ++ 93 :: rest) = some (puts T l, rest)
  | [], h0, _, _, _ => absurd rfl h0
  | [c], _, hl, T, rest => by
    have hc := h c (hl c (by simp))
    rw [catE, catE, List.append_nil, rowsS_eq]
    unfold spanP
    rw [hc.2.2]
    dsimp only
    rw [if_neg (by simp [isNext])]
    dsimp only
    rw [with_put]
    simp [isNext, puts]
  | c :: d :: l, _, hl, T, rest => by
    have hc := h c (hl c (by simp))
    obtain ⟨tl, hd⟩ := (h d (hl d (by simp))).1
    have ih := rows_told h (d :: l) (by simp) (fun b hb => hl b (by simp at hb ⊢; right; exact hb)) (T.put c) rest
    rw [catE, List.append_assoc, rowsS_eq]
    unfold spanP
    rw [hc.2.2]
    have hne : ∀ x : UInt8, x ≠ 92 → isNext x (catE e (d :: l) ++ 93 :: rest) = false := fun x hx => by
      rw [catE, hd]
      simp [isNext]
      exact fun e => hx e.symm
    dsimp only
    rw [if_neg (by rw [hne 45 (by decide)]; decide)]
    dsimp only
    rw [if_neg (by rw [hne 93 (by decide)]; decide), with_put, ih]
    rfl
theorem puts_ok : ∀ (l : List Nat) (T : S4), T.ok → (puts T l).ok
  | [], T, h => h
  | c :: l, T, h => puts_ok l (T.put c) (h.put c)
theorem puts_has : ∀ (l : List Nat) (T : S4) (b : Nat), (∀ c ∈ l, c ≤ 255) → b ≤ 255 → (puts T l).has b = (decide (b ∈ l) || T.has b)
  | [], T, b, _, _ => by simp [puts]
  | c :: l, T, b, hl, hb => by
    show (puts (T.put c) l).has b = _
    rw [puts_has l (T.put c) b (fun d hd => hl d (by simp [hd])) hb, S4.has_put T c b (hl c (by simp)) hb]
    by_cases h1 : b = c
    · simp [h1]
    · simp [h1]
theorem puts_rev (l : List Nat) (hl : ∀ c ∈ l, c ≤ 255) : puts S4.zero l.reverse = puts S4.zero l :=
  S4.ext_has (puts_ok _ _ zero_ok) (puts_ok _ _ zero_ok) fun b hb => by
    rw [puts_has _ _ b (fun c hc => hl c (by simpa using hc)) hb, puts_has _ _ b hl hb]
    simp
theorem puts_snoc (T : S4) (l : List Nat) (c : Nat) : puts T (l ++ [c]) = (puts T l).put c := by simp [puts]
theorem puts_zero (l : List Nat) (h0 : l ≠ []) (hl : ∀ c ∈ l, c ≤ 255) : puts S4.zero l ≠ S4.zero := fun h => by
  cases l with
  | nil => exact h0 rfl
  | cons c l =>
    have := puts_has (c :: l) S4.zero c hl (hl c (by simp))
    rw [h, S4.zero_has] at this
    simp at this
/-- some byte is not among a few -/
theorem some_other : ∀ (n : Nat) (l : List Nat), l.length < n → ∃ b, b < n ∧ b ∉ l
  | 0, l, h => absurd h (by omega)
  | n + 1, l, h => by
    by_cases hn : n ∈ l
    · have h1 : (l.filter (· != n)).length < l.length := by
        have := List.length_filter_lt_length_iff_exists (p := (· != n)) (l := l)
        exact this.2 ⟨n, hn, by simp⟩
      obtain ⟨b, hb, hm⟩ := some_other n (l.filter (· != n)) (by omega)
      refine ⟨b, by omega, fun hc => hm ?_⟩
      rw [List.mem_filter]
      exact ⟨hc, by simp; omega⟩
    · exact ⟨n, by omega, hn⟩
theorem all_full : ∀ b < 256, S4.full.has b = true := by decide +kernel
theorem others_zero (l : List Nat) (hl : ∀ c ∈ l, c ≤ 255) (h : l.length < 256) : (puts S4.zero l).others ≠ S4.zero := fun he => by
  obtain ⟨b, hb, hm⟩ := some_other 256 l h
  have h1 := puts_has l S4.zero b hl (by omega)
  rw [S4.zero_has] at h1
  have hf : (puts S4.zero l).has b = false := by rw [h1]; simp [hm]
  have full : puts S4.zero l = S4.full := by
    have ok := puts_ok l S4.zero zero_ok
    generalize puts S4.zero l = s at *
    obtain ⟨a, b2, c, d⟩ := s
    obtain ⟨o1, o2, o3, o4⟩ := ok
    simp [S4.others, S4.zero, S4.full] at he o1 o2 o3 o4 ⊢
    omega
  rw [full, all_full b hb] at hf
  cases hf
theorem set_atom (alt : Bs → Option (Rx × Bs)) (l : Bs) (s : S4) (h : setP l = some (s, [])) : pieceP alt (91 :: l) = some (anyR s, []) := by
  unfold pieceP atomP
  rw [if_neg (by simp [isNext]), if_pos (by simp [isNext]), List.tail_cons, h]
  rfl
theorem set_size {s : S4} (hs : s.ok) (hz : s ≠ S4.zero) : sizeR (anyR s) ≠ 257 := by
  have h := (may_set hs hz).1
  unfold anyR at h ⊢
  rw [sizeR] at h ⊢
  split
  · rw [sizeL]; omega
  · omega
theorem set_parse (l : Bs) (s : S4) (h : setP l = some (s, [])) (hl : l.length ≤ 127) : parseS (91 :: l) = (some (anyR s), 0) := by
  have hk := setP_ok h
  have hp : altP ((91 :: l).length + 1) [] [] (91 :: l) = some (anyR s, []) := by
    rw [altP_piece (by rfl) (by simp [isNext]) (by simp [isNext]), set_atom _ _ _ h]
    dsimp only
    rw [altP_brk (.inl rfl) (by simp)]
    rfl
  rw [parse_of hp, if_neg (by simp only [List.length_cons]; omega), if_neg (set_size hk.1 hk.2)]
theorem told_set {e : Nat → Bs} (h : Eb e) (l : List Nat) (h0 : l ≠ []) (hl : ∀ c ∈ l, c ≤ 255) (few : l.length ≤ 30) : parseS (91 :: (catE e l ++ [93])) = (some (anyR (puts S4.zero l)), 0) := by
  have hlen := catE_len h l hl
  refine set_parse _ _ ?_ (by simp only [List.length_append, hlen, List.length_singleton]; omega)
  rw [setP_eq]
  have h94 : isNext 94 (catE e l ++ [93]) = false := by
    cases l with
    | nil => exact absurd rfl h0
    | cons c l =>
      obtain ⟨tl, hc⟩ := (h c (hl c (by simp))).1
      rw [catE, hc]; rfl
  rw [if_neg (by rw [h94]; decide), rows_told h l h0 hl S4.zero []]
  unfold endS
  dsimp only
  rw [if_neg (by simpa using puts_zero l h0 hl)]
  rfl
theorem told_not {e : Nat → Bs} (h : Eb e) (l : List Nat) (h0 : l ≠ []) (hl : ∀ c ∈ l, c ≤ 255) (few : l.length ≤ 30) : parseS (91 :: 94 :: (catE e l ++ [93])) = (some (anyR (puts S4.zero l).others), 0) := by
  have hlen := catE_len h l hl
  refine set_parse _ _ ?_ (by simp [hlen]; omega)
  rw [setP_eq, if_pos (by simp [isNext]), List.tail_cons, rows_told h l h0 hl S4.zero []]
  unfold endS
  dsimp only
  rw [if_neg (by simpa using others_zero l hl (by omega))]
  rfl
theorem told_none : parseS [91, 93] = (none, 50) := by kernel_rfl
theorem told_none2 : parseS [91, 94, 93] = (none, 50) := by kernel_rfl
end Go.Proofs.YthejkelnjimogaaDoor
