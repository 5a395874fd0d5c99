/- An expression is read from its pattern as what it was: plain facts. Conditions: it may be, its numbers are a machine's. -/
import Derived.Test.YthejkelnjimogaaDoorPst
namespace Go.Proofs.YthejkelnjimogaaDoor
open Go.RowKit
set_option linter.unusedVariables false

/-- every expression, by its elements -/
theorem Rx.ind {P : Rx → Prop} (h : ∀ k mn mx s0 s1 s2 s3 l, (∀ x ∈ l, P x) → P (.mk k mn mx s0 s1 s2 s3 l)) : ∀ t, P t := fun t =>
  Rx.rec (motive_1 := P) (motive_2 := fun l => ∀ x ∈ l, P x) (fun k mn mx s0 s1 s2 s3 l ih => h k mn mx s0 s1 s2 s3 l ih) (fun x hx => by cases hx)
    (fun x l hx hl y hy => by rcases List.mem_cons.1 hy with rfl | hy; exact hx; exact hl y hy) t
/-- it may be -/
def may (t : Rx) : Prop := sizeR t ≠ 0 ∧ okR t
theorem sizeL_each (m : Nat) : ∀ (l : List Rx) (acc : Nat), sizeL m l acc ≠ 0 → ∀ x ∈ l, sizeR x ≠ 0
  | [], _, _, x, hx => by cases hx
  | y :: l, acc, h, x, hx => by
    rw [sizeL] at h
    by_cases hy : sizeR y = 0
    · rw [if_pos hy] at h; exact absurd rfl h
    · rw [if_neg hy] at h
      rcases List.mem_cons.1 hx with rfl | hx
      · exact hy
      · exact sizeL_each m l _ h x hx
theorem okL_each : ∀ (l : List Rx), okL l → ∀ x ∈ l, okR x
  | [], _, x, hx => by cases hx
  | y :: l, h, x, hx => by
    rw [okL] at h
    rcases List.mem_cons.1 hx with rfl | hx
    · exact h.1
    · exact okL_each l h.2 x hx
theorem may.form {k mn mx s0 s1 s2 s3 : Int} {l : List Rx} (h : may (.mk k mn mx s0 s1 s2 s3 l)) : formF k mn mx s0 s1 s2 s3 l.length = true := by
  have h1 := h.1
  rw [sizeR] at h1
  split at h1
  · assumption
  · exact absurd rfl h1
theorem may.each {k mn mx s0 s1 s2 s3 : Int} {l : List Rx} (h : may (.mk k mn mx s0 s1 s2 s3 l)) : ∀ x ∈ l, may x := fun x hx => by
  have h1 := h.1
  rw [sizeR, if_pos h.form] at h1
  have h2 := h.2
  rw [okR] at h2
  exact ⟨sizeL_each _ l _ h1 x hx, okL_each l h2.2 x hx⟩
/-- the four kinds -/
theorem may.kinds {k mn mx s0 s1 s2 s3 : Int} {l : List Rx} (h : may (.mk k mn mx s0 s1 s2 s3 l)) :
    (k = 0 ∧ mn = 0 ∧ mx = 0 ∧ l = [] ∧ noS s0 s1 s2 s3 = false) ∨ (k = 1 ∧ mn = 0 ∧ mx = 0 ∧ s0 = 0 ∧ s1 = 0 ∧ s2 = 0 ∧ s3 = 0 ∧ l.length ≠ 1) ∨
    (k = 2 ∧ mn = 0 ∧ mx = 0 ∧ s0 = 0 ∧ s1 = 0 ∧ s2 = 0 ∧ s3 = 0 ∧ 2 ≤ l.length) ∨ (k = 3 ∧ s0 = 0 ∧ s1 = 0 ∧ s2 = 0 ∧ s3 = 0 ∧ areT mn mx = true ∧ ∃ y, l = [y]) := by
  have hf := h.form
  unfold formF at hf
  split at hf
  · simp at hf
    refine .inl ⟨by assumption, hf.1.2.1, hf.1.2.2, List.length_eq_zero_iff.1 (by simpa using hf.2), hf.1.1⟩
  · split at hf
    · simp [noS] at hf
      exact .inr (.inl ⟨by assumption, hf.1.2.1, hf.1.2.2, hf.1.1.1.1.1, hf.1.1.1.1.2, hf.1.1.1.2, hf.1.1.2, hf.2⟩)
    · split at hf
      · simp [noS] at hf
        exact .inr (.inr (.inl ⟨by assumption, hf.1.2.1, hf.1.2.2, hf.1.1.1.1.1, hf.1.1.1.1.2, hf.1.1.1.2, hf.1.1.2, hf.2⟩))
      · split at hf
        · simp [noS] at hf
          exact .inr (.inr (.inr ⟨by assumption, hf.1.1.1.1.1, hf.1.1.1.1.2, hf.1.1.1.2, hf.1.1.2, hf.1.2, List.length_eq_one_iff.1 hf.2⟩))
        · cases hf
/-- what ends a row: nothing more, a bracket's end -/
def brk (l : Bs) : Prop := l.isEmpty = true ∨ isNext 41 l = true
def nosign (l : Bs) : Prop := isNext 42 l = false ∧ isNext 43 l = false ∧ isNext 63 l = false ∧ isNext 123 l = false
theorem nosign_good {c : UInt8} {l : Bs} (h : goodC c = true) : nosign (c :: l) := ⟨goodC_ne h (by simp), goodC_ne h (by simp), goodC_ne h (by simp), goodC_ne h (by simp)⟩
theorem nosign_brk {l : Bs} (h : brk l) : nosign l := by
  cases l with
  | nil => exact ⟨rfl, rfl, rfl, rfl⟩
  | cons c l =>
    rcases h with h | h
    · cases h
    · simp [isNext] at h
      subst h
      exact ⟨rfl, rfl, rfl, rfl⟩
/-- a piece as it is told -/
def patQ (x : Rx) : Bs := if x.kind = 0 ∨ x.kind = 3 then patR x else 40 :: (patR x ++ [41])
theorem patE3 (x : Rx) : patE 3 x = if x.kind = 0 then patR x else 40 :: (patR x ++ [41]) := by
  unfold patE needR
  rw [if_pos rfl]
  by_cases h : x.kind = 0
  · simp [h]
  · simp [h]
theorem patE1 {x : Rx} (h : may x) : patE 1 x = patQ x := by
  obtain ⟨k, mn, mx, s0, s1, s2, s3, l⟩ := x
  unfold patE needR patQ
  have hk : (Rx.mk k mn mx s0 s1 s2 s3 l).kind = k := rfl
  rw [hk]
  rcases h.kinds with h | h | h | h
  · obtain ⟨rfl, _⟩ := h; rfl
  · obtain ⟨rfl, _⟩ := h; rfl
  · obtain ⟨rfl, _⟩ := h; rfl
  · obtain ⟨rfl, _⟩ := h; rfl
theorem ofI_ok {k mn mx s0 s1 s2 s3 : Int} {l : List Rx} (h : okR (.mk k mn mx s0 s1 s2 s3 l)) : (S4.ofI s0 s1 s2 s3).ok ∧ ((S4.ofI s0 s1 s2 s3).a : Int) = s0 ∧ ((S4.ofI s0 s1 s2 s3).b : Int) = s1 ∧ ((S4.ofI s0 s1 s2 s3).c : Int) = s2 ∧ ((S4.ofI s0 s1 s2 s3).d : Int) = s3 := by
  rw [okR] at h
  obtain ⟨⟨⟨a0, a1⟩, ⟨b0, b1⟩, ⟨c0, c1⟩, ⟨d0, d1⟩⟩, _⟩ := h
  refine ⟨⟨?_, ?_, ?_, ?_⟩, ?_, ?_, ?_, ?_⟩
  · show s0.toNat < _; omega
  · show s1.toNat < _; omega
  · show s2.toNat < _; omega
  · show s3.toNat < _; omega
  · show (s0.toNat : Int) = _; omega
  · show (s1.toNat : Int) = _; omega
  · show (s2.toNat : Int) = _; omega
  · show (s3.toNat : Int) = _; omega
/-- a set among expressions -/
theorem set_form {mn mx s0 s1 s2 s3 : Int} {l : List Rx} (h : may (.mk 0 mn mx s0 s1 s2 s3 l)) : anyR (S4.ofI s0 s1 s2 s3) = .mk 0 mn mx s0 s1 s2 s3 l ∧ (S4.ofI s0 s1 s2 s3).ok ∧ S4.ofI s0 s1 s2 s3 ≠ S4.zero ∧ patR (.mk 0 mn mx s0 s1 s2 s3 l) = setS (S4.ofI s0 s1 s2 s3) := by
  rcases h.kinds with ⟨_, rfl, rfl, rfl, hn⟩ | ⟨h, _⟩ | ⟨h, _⟩ | ⟨h, _⟩
  · obtain ⟨ok, e0, e1, e2, e3⟩ := ofI_ok h.2
    refine ⟨?_, ok, fun hz => ?_, by rw [patR, if_pos rfl]⟩
    · unfold anyR; rw [e0, e1, e2, e3]
    · rw [hz] at e0 e1 e2 e3
      have : noS s0 s1 s2 s3 = true := by rw [← e0, ← e1, ← e2, ← e3]; rfl
      rw [this] at hn; cases hn
  · cases h
  · cases h
  · cases h
/-- how a piece's text begins -/
theorem patQ_head {x : Rx} (h : may x) : ∃ c tl, patQ x = c :: tl ∧ goodC c = true := by
  have key : ∀ y : Rx, may y → ∃ c tl, patE 3 y = c :: tl ∧ goodC c = true := fun y hy => by
    rw [patE3]
    split
    · rename_i hk
      obtain ⟨k, mn, mx, s0, s1, s2, s3, l⟩ := y
      have hk' : k = 0 := hk
      subst hk'
      obtain ⟨_, ok, hz, hp⟩ := set_form hy
      rw [hp]
      exact setS_head _ ok hz
    · exact ⟨40, _, rfl, rfl⟩
  obtain ⟨k, mn, mx, s0, s1, s2, s3, l⟩ := x
  unfold patQ
  have hk : (Rx.mk k mn mx s0 s1 s2 s3 l).kind = k := rfl
  rw [hk]
  rcases h.kinds with ⟨rfl, _⟩ | ⟨rfl, _⟩ | ⟨rfl, _⟩ | ⟨rfl, _, _, _, _, _, y, rfl⟩
  · rw [if_pos (.inl rfl)]
    obtain ⟨_, ok, hz, hp⟩ := set_form h
    rw [hp]
    exact setS_head _ ok hz
  · exact ⟨40, _, rfl, rfl⟩
  · exact ⟨40, _, rfl, rfl⟩
  · rw [if_pos (.inr rfl)]
    obtain ⟨c, tl, hc, hg⟩ := key y (h.each y (by simp))
    refine ⟨c, tl ++ signS mn mx, ?_, hg⟩
    rw [patR, if_neg (by decide), if_neg (by decide), if_pos rfl, patL_map]
    show patE 3 y ++ _ = _
    rw [hc]; rfl
def Mt (t : Rx) : Prop := ∀ f rest, brk rest → (patR t ++ rest).length < f → altP f [] [] (patR t ++ rest) = some (t, rest)
def Qt (t : Rx) : Prop := ∀ f rest, nosign rest → (patQ t ++ rest).length ≤ f → pieceP (altP f [] []) (patQ t ++ rest) = some (t, rest)
/-- an atom: a set, or what stands in brackets -/
theorem atom_back (x : Rx) (h : may x) (hM : x.kind ≠ 0 → Mt x) (f : Nat) (rest : Bs) (hf : (patE 3 x ++ rest).length ≤ f) : atomP (altP f [] []) (patE 3 x ++ rest) = some (x, rest) := by
  rw [patE3] at hf ⊢
  by_cases hk : x.kind = 0
  · rw [if_pos hk]
    obtain ⟨k, mn, mx, s0, s1, s2, s3, l⟩ := x
    have hk' : k = 0 := hk
    subst hk'
    obtain ⟨e, ok, hz, hp⟩ := set_form h
    rw [hp, atom_set _ _ ok hz, e]
  · rw [if_neg hk] at hf ⊢
    show atomP (altP f [] []) (40 :: (patR x ++ [41] ++ rest)) = _
    rw [show patR x ++ [41] ++ rest = patR x ++ 41 :: rest by simp]
    have hm := hM hk f (41 :: rest) (.inr rfl) (by simp at hf ⊢; omega)
    unfold atomP
    rw [if_pos (by rfl)]
    simp only [List.tail_cons]
    rw [hm]
    rfl
theorem num_one (d c : UInt8) (l : Bs) (hd : isDig d = true) (hn : ¬ d.toNat - 48 > 15) (hc : isDig c = false) : numberP (d :: c :: l) = some (d.toNat - 48, c :: l) := by
  simp only [numberP, digitP, hd, if_true, hc, Bool.and_false, Bool.false_eq_true, if_false]
  rw [if_neg hn]
theorem num_two (d e : UInt8) (l : Bs) (hd : isDig d = true) (h1 : decide (d.toNat - 48 > 0) = true) (he : isDig e = true) (hn : ¬ 10 * (d.toNat - 48) + (e.toNat - 48) > 15) : numberP (d :: e :: l) = some (10 * (d.toNat - 48) + (e.toNat - 48), l) := by
  simp only [numberP, digitP, hd, if_true, he, h1, Bool.and_self]
  rw [if_neg hn]
theorem numberP_dec (m : Nat) (h : m ≤ 15) (c : UInt8) (hc : isDig c = false) (l : Bs) : numberP (decS m ++ c :: l) = some (m, c :: l) := by
  have : m = 0 ∨ m = 1 ∨ m = 2 ∨ m = 3 ∨ m = 4 ∨ m = 5 ∨ m = 6 ∨ m = 7 ∨ m = 8 ∨ m = 9 ∨ m = 10 ∨ m = 11 ∨ m = 12 ∨ m = 13 ∨ m = 14 ∨ m = 15 := by omega
  have d : decS 0 = [48] ∧ decS 1 = [49] ∧ decS 2 = [50] ∧ decS 3 = [51] ∧ decS 4 = [52] ∧ decS 5 = [53] ∧ decS 6 = [54] ∧ decS 7 = [55] ∧ decS 8 = [56] ∧ decS 9 = [57] ∧ decS 10 = [49, 48] ∧ decS 11 = [49, 49] ∧ decS 12 = [49, 50] ∧ decS 13 = [49, 51] ∧ decS 14 = [49, 52] ∧ decS 15 = [49, 53] := by decide +kernel
  obtain ⟨d0, d1, d2, d3, d4, d5, d6, d7, d8, d9, d10, d11, d12, d13, d14, d15⟩ := d
  rcases this with rfl | rfl | rfl | rfl | rfl | rfl | rfl | rfl | rfl | rfl | rfl | rfl | rfl | rfl | rfl | rfl
  · rw [d0]; exact num_one _ c l (by decide) (by decide) hc
  · rw [d1]; exact num_one _ c l (by decide) (by decide) hc
  · rw [d2]; exact num_one _ c l (by decide) (by decide) hc
  · rw [d3]; exact num_one _ c l (by decide) (by decide) hc
  · rw [d4]; exact num_one _ c l (by decide) (by decide) hc
  · rw [d5]; exact num_one _ c l (by decide) (by decide) hc
  · rw [d6]; exact num_one _ c l (by decide) (by decide) hc
  · rw [d7]; exact num_one _ c l (by decide) (by decide) hc
  · rw [d8]; exact num_one _ c l (by decide) (by decide) hc
  · rw [d9]; exact num_one _ c l (by decide) (by decide) hc
  · rw [d10]; exact num_two _ _ (c :: l) (by decide) (by decide) (by decide) (by decide)
  · rw [d11]; exact num_two _ _ (c :: l) (by decide) (by decide) (by decide) (by decide)
  · rw [d12]; exact num_two _ _ (c :: l) (by decide) (by decide) (by decide) (by decide)
  · rw [d13]; exact num_two _ _ (c :: l) (by decide) (by decide) (by decide) (by decide)
  · rw [d14]; exact num_two _ _ (c :: l) (by decide) (by decide) (by decide) (by decide)
  · rw [d15]; exact num_two _ _ (c :: l) (by decide) (by decide) (by decide) (by decide)
theorem times_one (m : Nat) (h : m ≤ 15) (rest : Bs) : timesP (decS m ++ 125 :: rest) = some ((m : Int), (m : Int), rest) := by
  unfold timesP
  rw [numberP_dec m h 125 (by decide)]
  rfl
theorem times_more (m : Nat) (h : m ≤ 15) (rest : Bs) : timesP (decS m ++ 44 :: 125 :: rest) = some ((m : Int), -1, rest) := by
  unfold timesP
  rw [numberP_dec m h 44 (by decide)]
  rfl
theorem times_two (m n : Nat) (h : m ≤ 15) (hn : n ≤ 15) (hmn : m ≤ n) (rest : Bs) : timesP (decS m ++ 44 :: (decS n ++ 125 :: rest)) = some ((m : Int), (n : Int), rest) := by
  unfold timesP
  rw [numberP_dec m h 44 (by decide)]
  dsimp only
  rw [show isNext 125 (44 :: (decS n ++ 125 :: rest)) = false from rfl, if_neg (by decide)]
  rw [show wantP 44 (44 :: (decS n ++ 125 :: rest)) = some (decS n ++ 125 :: rest) from rfl]
  dsimp only
  have hd : isNext 125 (decS n ++ 125 :: rest) = false := by
    have : ∀ n < 16, isNext 125 (decS n) = false ∧ decS n ≠ [] := by decide +kernel
    obtain ⟨h1, h2⟩ := this n (by omega)
    cases hx : decS n with
    | nil => exact absurd hx h2
    | cons c l => rw [hx] at h1; exact h1
  rw [hd, if_neg (by decide), numberP_dec n hn 125 (by decide)]
  dsimp only
  rw [show wantP 125 (125 :: rest) = some rest from rfl]
  dsimp only
  rw [if_pos (by rw [areT_iff]; omega)]
/-- a sign behind an atom -/
theorem piece_sign (alt : Bs → Option (Rx × Bs)) (l : Bs) (y : Rx) (mn mx : Int) (hat : areT mn mx = true) (rest : Bs) (ha : atomP alt l = some (y, signS mn mx ++ rest)) : pieceP alt l = some (repR y mn mx, rest) := by
  rw [areT_iff] at hat
  obtain ⟨m, rfl⟩ : ∃ m : Nat, mn = (m : Int) := ⟨mn.toNat, by omega⟩
  unfold pieceP
  rw [ha]
  dsimp only
  unfold signS
  rw [Int.toNat_natCast]
  by_cases h1 : (m : Int) = 0 ∧ mx = -1
  · rw [if_pos h1, h1.1, h1.2]; rfl
  · rw [if_neg h1]
    by_cases h2 : (m : Int) = 1 ∧ mx = -1
    · rw [if_pos h2, h2.1, h2.2]; rfl
    · rw [if_neg h2]
      by_cases h3 : (m : Int) = 0 ∧ mx = 1
      · rw [if_pos h3, h3.1, h3.2]; rfl
      · rw [if_neg h3]
        have key : ∀ (q : Bs) (a b : Int), timesP q = some (a, b, rest) → (if isNext 42 (123 :: q) = true then some (repR y 0 (-1), (123 :: q).tail) else if isNext 43 (123 :: q) = true then some (repR y 1 (-1), (123 :: q).tail) else if isNext 63 (123 :: q) = true then some (repR y 0 1, (123 :: q).tail) else if isNext 123 (123 :: q) = true then match timesP (123 :: q).tail with | none => none | some (least, most, l2) => some (repR y least most, l2) else some (y, 123 :: q)) = some (repR y a b, rest) := fun q a b hq => by
          rw [show isNext 42 (123 :: q) = false from rfl, show isNext 43 (123 :: q) = false from rfl, show isNext 63 (123 :: q) = false from rfl, show isNext 123 (123 :: q) = true from rfl]
          simp only [Bool.false_eq_true, if_false, if_true, List.tail_cons]
          rw [hq]
        by_cases h4 : mx = (m : Int)
        · rw [if_pos h4, h4]
          rw [show [123] ++ decS m ++ [125] ++ rest = 123 :: (decS m ++ 125 :: rest) by simp]
          exact key _ _ _ (times_one m (by omega) rest)
        · rw [if_neg h4]
          by_cases h5 : mx = -1
          · rw [if_pos h5, h5]
            rw [show [123] ++ decS m ++ [44, 125] ++ rest = 123 :: (decS m ++ 44 :: 125 :: rest) by simp]
            exact key _ _ _ (times_more m (by omega) rest)
          · rw [if_neg h5]
            obtain ⟨n, rfl⟩ : ∃ n : Nat, mx = (n : Int) := ⟨mx.toNat, by omega⟩
            rw [Int.toNat_natCast]
            rw [show [123] ++ decS m ++ [44] ++ decS n ++ [125] ++ rest = 123 :: (decS m ++ 44 :: (decS n ++ 125 :: rest)) by simp]
            exact key _ _ _ (times_two m n (by omega) (by omega) (by omega) rest)
theorem piece_plain (alt : Bs → Option (Rx × Bs)) (l : Bs) (y : Rx) (rest : Bs) (hr : nosign rest) (ha : atomP alt l = some (y, rest)) : pieceP alt l = some (y, rest) := by
  obtain ⟨h1, h2, h3, h4⟩ := hr
  unfold pieceP
  rw [ha]
  dsimp only
  rw [h1, h2, h3, h4]
  rfl
/-- a piece is read as what it was -/
theorem Qt_of (t : Rx) (h : may t) (hM : t.kind ≠ 0 → t.kind ≠ 3 → Mt t) (hL : ∀ y ∈ t.list, Mt y) : Qt t := by
  intro f rest hr hf
  obtain ⟨k, mn, mx, s0, s1, s2, s3, l⟩ := t
  have hk : (Rx.mk k mn mx s0 s1 s2 s3 l).kind = k := rfl
  rcases h.kinds with ⟨rfl, _⟩ | ⟨rfl, _⟩ | ⟨rfl, _⟩ | ⟨rfl, rfl, rfl, rfl, rfl, hat, y, rfl⟩
  · have e : patQ (.mk 0 mn mx s0 s1 s2 s3 l) = patE 3 (.mk 0 mn mx s0 s1 s2 s3 l) := by rw [patE3]; unfold patQ; rw [if_pos (.inl rfl), if_pos hk]
    rw [e] at hf ⊢
    exact piece_plain _ _ _ _ hr (atom_back _ h (fun q => absurd rfl q) f rest hf)
  · have e : patQ (.mk 1 mn mx s0 s1 s2 s3 l) = patE 3 (.mk 1 mn mx s0 s1 s2 s3 l) := by rw [patE3]; unfold patQ; rw [if_neg (by rw [hk]; decide), if_neg (by rw [hk]; decide)]
    rw [e] at hf ⊢
    exact piece_plain _ _ _ _ hr (atom_back _ h (fun q => hM q (by rw [hk]; decide)) f rest hf)
  · have e : patQ (.mk 2 mn mx s0 s1 s2 s3 l) = patE 3 (.mk 2 mn mx s0 s1 s2 s3 l) := by rw [patE3]; unfold patQ; rw [if_neg (by rw [hk]; decide), if_neg (by rw [hk]; decide)]
    rw [e] at hf ⊢
    exact piece_plain _ _ _ _ hr (atom_back _ h (fun q => hM q (by rw [hk]; decide)) f rest hf)
  · have e : patQ (.mk 3 mn mx 0 0 0 0 [y]) = patE 3 y ++ signS mn mx := by
      unfold patQ
      rw [if_pos (.inr rfl), patR, if_neg (by decide), if_neg (by decide), if_pos rfl, patL_map]
      rfl
    rw [e, List.append_assoc] at hf ⊢
    exact piece_sign _ _ y mn mx hat rest (atom_back y (h.each y (by simp)) (fun _ => hL y (List.mem_cons_self ..)) f (signS mn mx ++ rest) hf)
def cat (l : List Rx) : Bs := (l.map patQ).flatten
theorem cat_cons (x : Rx) (l : List Rx) : cat (x :: l) = patQ x ++ cat l := by simp [cat]
/-- what ends a row, or stands between rows -/
def brk2 (l : Bs) : Prop := brk l ∨ isNext 124 l = true
theorem nosign_brk2 {l : Bs} (h : brk2 l) : nosign l := by
  rcases h with h | h
  · exact nosign_brk h
  · cases l with
    | nil => cases h
    | cons c l =>
      simp [isNext] at h
      subst h
      exact ⟨rfl, rfl, rfl, rfl⟩
theorem row_parse : ∀ (l : List Rx), (∀ x ∈ l, may x) → (∀ x ∈ l, Qt x) → ∀ (f : Nat) (rows row : List Rx) (rest : Bs), brk2 rest → (cat l ++ rest).length < f → ∃ g, rest.length < g ∧ altP f rows row (cat l ++ rest) = altP g rows (row ++ l) rest
  | [], _, _, f, rows, row, rest, _, hf => ⟨f, by simpa [cat] using hf, by simp [cat]⟩
  | x :: l, hm, hQ, f, rows, row, rest, hr, hf => by
    have hx := hm x (by simp)
    have hq := hQ x (by simp)
    obtain ⟨c, tl, hc, hg⟩ := patQ_head hx
    rw [cat_cons, List.append_assoc] at hf ⊢
    cases f with
    | zero => omega
    | succ f =>
      have hns : nosign (cat l ++ rest) := by
        cases l with
        | nil => exact nosign_brk2 hr
        | cons y l =>
          obtain ⟨c', tl', hc', hg'⟩ := patQ_head (hm y (by simp))
          rw [cat_cons, hc']
          exact nosign_good hg'
      have h1 : (patQ x ++ (cat l ++ rest)).isEmpty = false := by rw [hc]; rfl
      have h2 : isNext 41 (patQ x ++ (cat l ++ rest)) = false := by rw [hc]; exact goodC_ne hg (by simp)
      have h3 : isNext 124 (patQ x ++ (cat l ++ rest)) = false := by rw [hc]; exact goodC_ne hg (by simp)
      have hp := hq f (cat l ++ rest) hns (by omega)
      rw [altP_piece h1 h2 h3, hp]
      dsimp only
      have hlen : 1 ≤ (patQ x).length := by rw [hc]; simp
      obtain ⟨g, hg1, hg2⟩ := row_parse l (fun y hy => hm y (by simp [hy])) (fun y hy => hQ y (by simp [hy])) f rows (row ++ [x]) rest hr (by rw [List.length_append] at hf; omega)
      exact ⟨g, hg1, by rw [hg2]; simp⟩
theorem altP_brk {g : Nat} {rows row : List Rx} {rest : Bs} (h : brk rest) (hg : rest.length < g) : altP g rows row rest = some (togR 2 (rows ++ [togR 1 row]), rest) := by
  cases g with
  | zero => omega
  | succ g => exact altP_end h
theorem tog_one (k : Int) (x : Rx) : togR k [x] = x := rfl
theorem tog_many (k : Int) (l : List Rx) (h : l.length ≠ 1) : togR k l = .mk k 0 0 0 0 0 0 l := by
  unfold togR
  split
  · exact absurd rfl h
  · rfl
/-- an element of an alternative, as a row -/
theorem seg (x : Rx) (h : may x) (hQ : Qt x) (hQs : ∀ y ∈ x.list, Qt y) : ∃ r, patE 2 x = cat r ∧ togR 1 r = x ∧ (∀ y ∈ r, may y) ∧ ∀ y ∈ r, Qt y := by
  obtain ⟨k, mn, mx, s0, s1, s2, s3, l⟩ := x
  have hk : (Rx.mk k mn mx s0 s1 s2 s3 l).kind = k := rfl
  have one : patE 2 (.mk k mn mx s0 s1 s2 s3 l) = patQ (.mk k mn mx s0 s1 s2 s3 l) → ∃ r, patE 2 (.mk k mn mx s0 s1 s2 s3 l) = cat r ∧ togR 1 r = .mk k mn mx s0 s1 s2 s3 l ∧ (∀ y ∈ r, may y) ∧ ∀ y ∈ r, Qt y := fun e =>
    ⟨[.mk k mn mx s0 s1 s2 s3 l], by rw [e]; simp [cat], rfl, fun y hy => by simp at hy; subst hy; exact h, fun y hy => by simp at hy; subst hy; exact hQ⟩
  rcases h.kinds with ⟨rfl, _⟩ | ⟨rfl, rfl, rfl, rfl, rfl, rfl, rfl, hl⟩ | ⟨rfl, _⟩ | ⟨rfl, _⟩
  · exact one rfl
  · refine ⟨l, ?_, tog_many 1 l hl, h.each, hQs⟩
    show patR _ = _
    rw [patR, if_neg (by decide), if_neg (by decide), if_neg (by decide), patL_map]
    have : l.map (patE 1) = l.map patQ := List.map_congr_left fun y hy => patE1 (h.each y hy)
    rw [this]
    unfold cat
    have j0 : ∀ ls : List Bs, Lib.join ls [] = ls.flatten := by
      intro ls
      induction ls with
      | nil => rfl
      | cons a ls ih =>
        rw [Lib.join_cons]
        simp [Lib.joinTail]
    exact j0 _
  · exact one rfl
  · exact one rfl
theorem alts_parse : ∀ (l : List Rx), l ≠ [] → (∀ x ∈ l, may x) → (∀ x ∈ l, Qt x) → (∀ x ∈ l, ∀ y ∈ x.list, Qt y) → ∀ (f : Nat) (rows : List Rx) (rest : Bs), brk rest → (Lib.join (l.map (patE 2)) [124] ++ rest).length < f →
    altP f rows [] (Lib.join (l.map (patE 2)) [124] ++ rest) = some (togR 2 (rows ++ l), rest)
  | [], h, _, _, _, _, _, _, _, _ => absurd rfl h
  | [x], _, hm, hQ, hQs, f, rows, rest, hr, hf => by
    obtain ⟨r, e1, e2, e3, e4⟩ := seg x (hm x (by simp)) (hQ x (by simp)) (hQs x (by simp))
    rw [List.map_cons, List.map_nil, Lib.join_one, e1] at hf ⊢
    obtain ⟨g, hg, he⟩ := row_parse r e3 e4 f rows [] rest (.inl hr) hf
    rw [he, altP_brk hr hg, List.nil_append, e2]
  | x :: y :: l, _, hm, hQ, hQs, f, rows, rest, hr, hf => by
    obtain ⟨r, e1, e2, e3, e4⟩ := seg x (hm x (by simp)) (hQ x (by simp)) (hQs x (by simp))
    have ej : Lib.join ((x :: y :: l).map (patE 2)) [124] ++ rest = cat r ++ (124 :: (Lib.join ((y :: l).map (patE 2)) [124] ++ rest)) := by
      rw [List.map_cons, Lib.join_cons, e1, List.map_cons, Lib.join_cons]
      simp [Lib.joinTail]
    rw [ej] at hf ⊢
    obtain ⟨g, hg, he⟩ := row_parse r e3 e4 f rows [] (124 :: (Lib.join ((y :: l).map (patE 2)) [124] ++ rest)) (.inr rfl) hf
    rw [he]
    cases g with
    | zero => omega
    | succ g =>
      rw [altP_bar rfl, List.nil_append, e2, List.tail_cons]
      rw [alts_parse (y :: l) (by simp) (fun z hz => hm z (by simp [hz])) (fun z hz => hQ z (by simp [hz])) (fun z hz => hQs z (by simp [hz])) g (rows ++ [x]) rest hr (by simp only [List.length_cons] at hg; omega)]
      simp
/-- an expression is read from its pattern as what it was -/
theorem back_all : ∀ t : Rx, may t → Mt t ∧ Qt t ∧ ∀ y ∈ t.list, Qt y := by
  refine Rx.ind fun k mn mx s0 s1 s2 s3 l ih => ?_
  intro h
  have hL : ∀ y ∈ l, Mt y := fun y hy => (ih y hy (h.each y hy)).1
  have hLQ : ∀ y ∈ l, Qt y := fun y hy => (ih y hy (h.each y hy)).2.1
  have hLL : ∀ y ∈ l, ∀ z ∈ y.list, Qt z := fun y hy => (ih y hy (h.each y hy)).2.2
  have hk : (Rx.mk k mn mx s0 s1 s2 s3 l).kind = k := rfl
  have single : Qt (.mk k mn mx s0 s1 s2 s3 l) → patQ (.mk k mn mx s0 s1 s2 s3 l) = patR (.mk k mn mx s0 s1 s2 s3 l) → Mt (.mk k mn mx s0 s1 s2 s3 l) := fun hq e f rest hr hf => by
    have ec : cat [.mk k mn mx s0 s1 s2 s3 l] = patR (.mk k mn mx s0 s1 s2 s3 l) := by simp [cat, e]
    rw [← ec] at hf ⊢
    obtain ⟨g, hg, he⟩ := row_parse [.mk k mn mx s0 s1 s2 s3 l] (fun y hy => by simp at hy; subst hy; exact h) (fun y hy => by simp at hy; subst hy; exact hq) f [] [] rest (.inl hr) hf
    rw [he, altP_brk hr hg]
    rfl
  have hM : Mt (.mk k mn mx s0 s1 s2 s3 l) := by
    rcases h.kinds with ⟨rfl, _⟩ | ⟨rfl, rfl, rfl, rfl, rfl, rfl, rfl, hl⟩ | ⟨rfl, rfl, rfl, rfl, rfl, rfl, rfl, hl⟩ | ⟨rfl, _⟩
    · exact single (Qt_of _ h (fun q => absurd rfl q) hL) (by unfold patQ; rw [if_pos (.inl rfl)])
    · intro f rest hr hf
      obtain ⟨r, e1, e2, e3, e4⟩ : ∃ r, patR (.mk 1 0 0 0 0 0 0 l) = cat r ∧ togR 1 r = .mk 1 0 0 0 0 0 0 l ∧ (∀ y ∈ r, may y) ∧ ∀ y ∈ r, Qt y := by
        refine ⟨l, ?_, tog_many 1 l hl, h.each, hLQ⟩
        rw [patR, if_neg (by decide), if_neg (by decide), if_neg (by decide), patL_map]
        have : l.map (patE 1) = l.map patQ := List.map_congr_left fun y hy => patE1 (h.each y hy)
        rw [this]
        unfold cat
        have j0 : ∀ ls : List Bs, Lib.join ls [] = ls.flatten := by
          intro ls
          induction ls with
          | nil => rfl
          | cons a ls ih =>
            rw [Lib.join_cons]
            simp [Lib.joinTail]
        exact j0 _
      rw [e1] at hf ⊢
      obtain ⟨g, hg, he⟩ := row_parse r e3 e4 f [] [] rest (.inl hr) hf
      rw [he, altP_brk hr hg]
      simp only [List.nil_append]
      rw [e2]
      rfl
    · intro f rest hr hf
      have e : patR (.mk 2 0 0 0 0 0 0 l) = Lib.join (l.map (patE 2)) [124] := by rw [patR, if_neg (by decide), if_pos rfl, patL_map]
      rw [e] at hf ⊢
      rw [alts_parse l (by intro q; rw [q] at hl; simp at hl) h.each hLQ hLL f [] rest hr hf, List.nil_append, tog_many 2 l (by omega)]
    · exact single (Qt_of _ h (fun _ q => absurd rfl q) hL) (by unfold patQ; rw [if_pos (.inr rfl)])
  exact ⟨hM, Qt_of _ h (fun _ _ => hM) hL, hLQ⟩
end Go.Proofs.YthejkelnjimogaaDoor
