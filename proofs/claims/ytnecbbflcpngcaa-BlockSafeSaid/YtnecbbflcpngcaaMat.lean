/- Sectors as rows of bytes, and what a disk does with them: nothing of the program. No conditions. -/
import Derived.RowKit
namespace Go.Proofs.Ytnecbbflcpngcaa
set_option maxRecDepth 20000
set_option linter.unusedVariables false

abbrev Bts := List UInt8
def sec (l : Bts) (i : Nat) : Bts := (l.drop (128 * i)).take 128
/-- t laid from the place o on -/
def lay (l : Bts) (o : Nat) (t : Bts) : Bts := l.take o ++ t ++ l.drop (o + t.length)
theorem sec_len {l : Bts} {i : Nat} (h : 128 * i + 128 ≤ l.length) : (sec l i).length = 128 := by simp [sec]; omega
theorem lay_len {l : Bts} {o : Nat} {t : Bts} (h : o + t.length ≤ l.length) : (lay l o t).length = l.length := by simp [lay]; omega
theorem sec_get (l : Bts) (i j : Nat) (hj : j < 128) : (sec l i)[j]? = l[128 * i + j]? := by
  unfold sec
  rw [List.getElem?_take, if_pos hj, List.getElem?_drop]
theorem sec_get_none (l : Bts) (i j : Nat) (hj : 128 ≤ j) : (sec l i)[j]? = none := by
  unfold sec
  rw [List.getElem?_take, if_neg (by omega)]
theorem lay_get {l : Bts} {o : Nat} {t : Bts} (h : o + t.length ≤ l.length) (j : Nat) : (lay l o t)[j]? = if o ≤ j ∧ j < o + t.length then t[j - o]? else l[j]? := by
  unfold lay
  have h1 : (l.take o).length = o := by simp; omega
  rw [List.append_assoc]
  by_cases a : j < o
  · rw [List.getElem?_append_left (by omega), if_neg (by omega), List.getElem?_take, if_pos a]
  · rw [List.getElem?_append_right (by omega), h1]
    by_cases b : j < o + t.length
    · rw [List.getElem?_append_left (by omega), if_pos ⟨by omega, b⟩]
    · rw [List.getElem?_append_right (by omega), if_neg (by omega), List.getElem?_drop]
      congr 1
      omega
theorem sec_lay_same {l : Bts} {i : Nat} {t : Bts} (h : 128 * i + 128 ≤ l.length) (ht : t.length ≤ 128) : sec (lay l (128 * i) t) i = t ++ (sec l i).drop t.length := by
  apply List.ext_getElem?
  intro j
  by_cases hj : j < 128
  · rw [sec_get _ _ _ hj, lay_get (by omega)]
    by_cases a : j < t.length
    · rw [if_pos (by omega), List.getElem?_append_left a]; congr 1; omega
    · rw [if_neg (by omega), List.getElem?_append_right (by omega), List.getElem?_drop, sec_get _ _ _ (by omega)]; congr 1; omega
  · rw [sec_get_none _ _ _ (by omega), List.getElem?_eq_none]
    have := sec_len (i := i) h
    simp [this]; omega
theorem sec_lay_other {l : Bts} {i j : Nat} {t : Bts} (h : 128 * i + 128 ≤ l.length) (ht : t.length ≤ 128) (hne : i ≠ j) : sec (lay l (128 * i) t) j = sec l j := by
  apply List.ext_getElem?
  intro k
  by_cases hk : k < 128
  · rw [sec_get _ _ _ hk, sec_get _ _ _ hk, lay_get (by omega), if_neg (by omega)]
  · rw [sec_get_none _ _ _ (by omega), sec_get_none _ _ _ (by omega)]
theorem ext_sec {a b : Bts} {c : Nat} (ha : a.length = 128 * c) (hb : b.length = 128 * c) (h : ∀ i, i < c → sec a i = sec b i) : a = b := by
  apply List.ext_getElem?
  intro j
  by_cases hj : j < 128 * c
  · have h1 := h (j / 128) (by omega)
    have h2 : (sec a (j / 128))[j % 128]? = (sec b (j / 128))[j % 128]? := by rw [h1]
    rw [sec_get _ _ _ (by omega), sec_get _ _ _ (by omega)] at h2
    rwa [show 128 * (j / 128) + j % 128 = j by omega] at h2
  · rw [List.getElem?_eq_none (by omega), List.getElem?_eq_none (by omega)]
/-- the bytes whose sectors are these -/
def secs (c : Nat) (g : Nat → Bts) : Bts := (List.range c).flatMap g
theorem secs_zero (g : Nat → Bts) : secs 0 g = [] := rfl
theorem secs_succ (c : Nat) (g : Nat → Bts) : secs (c + 1) g = secs c g ++ g c := by simp [secs, List.range_succ]
theorem secs_len {c : Nat} {g : Nat → Bts} (h : ∀ i, i < c → (g i).length = 128) : (secs c g).length = 128 * c := by
  induction c with
  | zero => rfl
  | succ c ih => rw [secs_succ, List.length_append, ih (fun i hi => h i (by omega)), h c (by omega)]; omega
theorem sec_secs {c : Nat} {g : Nat → Bts} (h : ∀ i, i < c → (g i).length = 128) (i : Nat) (hi : i < c) : sec (secs c g) i = g i := by
  induction c with
  | zero => omega
  | succ c ih =>
    have hl := secs_len (c := c) (g := g) (fun i hi => h i (by omega))
    rw [secs_succ]
    unfold sec
    by_cases e : i = c
    · subst e
      rw [List.drop_append_of_le_length (by omega), List.drop_of_length_le (by omega), List.nil_append, List.take_of_length_le (by rw [h i (by omega)]; omega)]
    · rw [List.drop_append_of_le_length (by omega), List.take_append_of_le_length (by simp; omega)]
      exact ih (fun i hi => h i (by omega)) (by omega)
theorem secs_same {c : Nat} {g g' : Nat → Bts} (h : ∀ i, i < c → g i = g' i) : secs c g = secs c g' := by
  induction c with
  | zero => rfl
  | succ c ih => rw [secs_succ, secs_succ, ih (fun i hi => h i (by omega)), h c (by omega)]
theorem secs_self {l : Bts} {c : Nat} (h : l.length = 128 * c) : secs c (sec l) = l :=
  ext_sec (c := c) (secs_len fun i hi => sec_len (by omega)) h fun i hi => sec_secs (fun i hi => sec_len (by omega)) i hi

/-! ### a disk -/
structure St where
  safe : Bts
  wr : Nat → Option Bts
  dead : Bool
  armed : Nat
  ch : List Int
def St.count (S : St) : Nat := S.safe.length / 128
structure St.ok (S : St) : Prop where
  len : S.safe.length = 128 * S.count
  lo : 1 ≤ S.count
  hi : S.count ≤ 4096
  wr : ∀ i s, S.wr i = some s → i < S.count ∧ s.length = 128
  armed : S.armed < 9223372036854775808
  ch : ∀ x ∈ S.ch, -9223372036854775808 ≤ x ∧ x < 9223372036854775808
  chl : S.ch.length ≤ 4096
/-- how many of a sector's written bytes choices leave -/
def part (ch : List Int) (i : Nat) : Nat := (min (max (ch.getD i 0) 0) 128).toNat
theorem part_le (ch : List Int) (i : Nat) : part ch i ≤ 128 := by unfold part; omega
def St.one (S : St) (f : Nat → Nat) (i : Nat) : Bts :=
  match S.wr i with
  | some s => s.take (f i) ++ (sec S.safe i).drop (f i)
  | none => sec S.safe i
theorem St.one_len {S : St} (h : S.ok) (f : Nat → Nat) (hf : ∀ i, f i ≤ 128) (i : Nat) (hi : i < S.count) : (S.one f i).length = 128 := by
  have h1 := h.len
  have h2 := sec_len (l := S.safe) (i := i) (by omega)
  have h3 := hf i
  unfold St.one
  split
  · rename_i s hs
    have := (h.wr i s hs).2
    simp [h2, this]; omega
  · exact h2
/-- all sectors, of each unsafe one the first written bytes, as many as f says -/
def St.left (S : St) (f : Nat → Nat) : Bts := secs S.count (S.one f)
theorem St.left_len {S : St} (h : S.ok) (f : Nat → Nat) (hf : ∀ i, f i ≤ 128) : (S.left f).length = 128 * S.count := secs_len fun i hi => S.one_len h f hf i hi
def full : Nat → Nat := fun _ => 128
def St.image (S : St) : Bts := S.left full
def St.after (S : St) (ch : List Int) : Bts := S.left (part ch)
def St.lose (S : St) (ch : List Int) : St := ⟨S.after ch, fun _ => none, true, 0, []⟩
def newS (l : Bts) : St := ⟨l, fun _ => none, false, 0, []⟩
/-- a change is counted: does the power go? -/
def St.change (S : St) : St × Int :=
  if S.armed = 0 then (S, 0) else if S.armed = 1 then ({ S with armed := 0 }.lose S.ch, 2) else ({ S with armed := S.armed - 1 }, 0)
def St.put (S : St) (i : Nat) (s : Bts) : St := { S with wr := fun j => if j = i then some s else S.wr j }
def St.write (S : St) (at' : Int) (s : Bts) : St × Int :=
  if S.dead then (S, 2) else if at' < 0 ∨ (S.count : Int) ≤ at' then (S, 71) else if s.length ≠ 128 then (S, 72) else (S.put at'.toNat s).change
/-- the sectors from a on, up to b, made safe -/
def St.calm (S : St) (a b : Nat) : St :=
  { S with safe := secs S.count (fun i => if a ≤ i ∧ i < b then S.one full i else sec S.safe i), wr := fun i => if a ≤ i ∧ i < b then none else S.wr i }
def St.flush (S : St) (f n : Int) : St × Int :=
  if S.dead then (S, 2) else if f < 0 ∨ n < 0 ∨ (S.count : Int) - n < f then (S, 71) else if S.change.2 = 0 then (S.change.1.calm f.toNat (f.toNat + n.toNat), 0) else S.change
def St.arm (S : St) (n : Int) (ch : List Int) : St × Int :=
  if S.dead then (S, 2) else if n < 0 then (S, 1) else if n = 0 then ({ S with armed := 0, ch := [] }, 0) else ({ S with armed := n.toNat, ch := ch.take S.count }, 0)
def St.crash (S : St) (ch : List Int) : St × Int := if S.dead then (S, 2) else (S.lose ch, 0)
def St.revive (S : St) : St := { S with dead := false, armed := 0, ch := [] }
def St.read (S : St) (at' : Int) : Bts × Int :=
  if S.dead then ([], 2) else if at' < 0 ∨ (S.count : Int) ≤ at' then ([], 71) else (S.one full at'.toNat, 0)
/-- the numbers of the unsafe ones, rising -/
def St.waiting (S : St) : List Nat := (List.range S.count).filter fun i => (S.wr i).isSome

theorem St.count_of {S T : St} (h : S.safe.length = T.safe.length) : S.count = T.count := by unfold St.count; rw [h]
theorem St.ok.lose {S : St} (h : S.ok) (ch : List Int) : (S.lose ch).ok ∧ (S.lose ch).count = S.count := by
  have h1 := S.left_len h (part ch) (part_le ch)
  have e : (S.lose ch).count = S.count := St.count_of (by show (S.left (part ch)).length = _; rw [h1, h.len])
  exact ⟨⟨by rw [e]; exact h1, by rw [e]; exact h.lo, by rw [e]; exact h.hi, (fun i s hs => nomatch hs), by show 0 < _; omega, (fun x hx => nomatch hx), Nat.zero_le _⟩, e⟩
theorem St.ok.new {l : Bts} (h1 : l.length ≠ 0) (h2 : l.length % 128 = 0) (h3 : l.length ≤ 524288) : (newS l).ok :=
  ⟨by show l.length = 128 * (l.length / 128); omega, by show 1 ≤ l.length / 128; omega, by show l.length / 128 ≤ 4096; omega, (fun i s hs => nomatch hs), by show 0 < _; omega, (fun x hx => nomatch hx), Nat.zero_le _⟩
theorem St.ok.arm0 {S : St} (h : S.ok) (n : Nat) (hn : n < 9223372036854775808) : ({ S with armed := n } : St).ok := ⟨h.len, h.lo, h.hi, h.wr, hn, h.ch, h.chl⟩
theorem St.ok.change {S : St} (h : S.ok) : S.change.1.ok ∧ S.change.1.count = S.count := by
  unfold St.change
  split
  · exact ⟨h, rfl⟩
  · split
    · exact (h.arm0 0 (by omega)).lose S.ch
    · exact ⟨h.arm0 _ (by have := h.armed; omega), rfl⟩
theorem St.ok.put {S : St} (h : S.ok) {i : Nat} {s : Bts} (hi : i < S.count) (hs : s.length = 128) : (S.put i s).ok :=
  ⟨h.len, h.lo, h.hi, fun j t ht => by
    change (if j = i then some s else S.wr j) = some t at ht
    split at ht
    · rename_i e; subst e; cases ht; exact ⟨hi, hs⟩
    · exact h.wr j t ht, h.armed, h.ch, h.chl⟩
theorem St.ok.write {S : St} (h : S.ok) (at' : Int) (s : Bts) : (S.write at' s).1.ok ∧ (S.write at' s).1.count = S.count := by
  unfold St.write
  split
  · exact ⟨h, rfl⟩
  · split
    · exact ⟨h, rfl⟩
    · split
      · exact ⟨h, rfl⟩
      · exact (h.put (by omega) (by omega)).change
theorem St.calm_len {S : St} (h : S.ok) (a b : Nat) : (S.calm a b).safe.length = 128 * S.count := secs_len fun i hi => by
  split
  · exact S.one_len h full (fun _ => Nat.le_refl _) i hi
  · have := h.len; exact sec_len (by omega)
theorem St.calm_count {S : St} (h : S.ok) (a b : Nat) : (S.calm a b).count = S.count := St.count_of (by rw [S.calm_len h, h.len])
theorem St.ok.calm {S : St} (h : S.ok) (a b : Nat) : (S.calm a b).ok := by
  have e := S.calm_count h a b
  refine ⟨by rw [e, S.calm_len h], by rw [e]; exact h.lo, by rw [e]; exact h.hi, fun i s hs => ?_, h.armed, h.ch, h.chl⟩
  rw [e]
  change (if a ≤ i ∧ i < b then none else S.wr i) = some s at hs
  split at hs
  · cases hs
  · exact h.wr i s hs
theorem St.ok.flush {S : St} (h : S.ok) (f n : Int) : (S.flush f n).1.ok ∧ (S.flush f n).1.count = S.count := by
  unfold St.flush
  split
  · exact ⟨h, rfl⟩
  · split
    · exact ⟨h, rfl⟩
    · split
      · exact ⟨h.change.1.calm _ _, by rw [St.calm_count h.change.1]; exact h.change.2⟩
      · exact h.change
theorem St.ok.arm {S : St} (h : S.ok) (n : Int) (ch : List Int) (hn : n < 9223372036854775808) (hc : ∀ x ∈ ch, -9223372036854775808 ≤ x ∧ x < 9223372036854775808) : (S.arm n ch).1.ok ∧ (S.arm n ch).1.count = S.count := by
  unfold St.arm
  split
  · exact ⟨h, rfl⟩
  · split
    · exact ⟨h, rfl⟩
    · split
      · exact ⟨⟨h.len, h.lo, h.hi, h.wr, by show 0 < _; omega, (fun x hx => nomatch hx), Nat.zero_le _⟩, rfl⟩
      · exact ⟨⟨h.len, h.lo, h.hi, h.wr, by show n.toNat < _; omega, fun x hx => hc x (List.mem_of_mem_take hx), by show (ch.take S.count).length ≤ 4096; have := h.hi; simp; omega⟩, rfl⟩
theorem St.ok.crash {S : St} (h : S.ok) (ch : List Int) : (S.crash ch).1.ok ∧ (S.crash ch).1.count = S.count := by
  unfold St.crash
  split
  · exact ⟨h, rfl⟩
  · exact h.lose ch
theorem St.ok.revive {S : St} (h : S.ok) : S.revive.ok := ⟨h.len, h.lo, h.hi, h.wr, by show 0 < _; omega, (fun x hx => nomatch hx), Nat.zero_le _⟩
end Go.Proofs.Ytnecbbflcpngcaa
