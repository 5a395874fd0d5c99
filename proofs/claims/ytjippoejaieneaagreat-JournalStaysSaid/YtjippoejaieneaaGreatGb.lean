/- Gb: Mat Mem Map Dsk Clo Lef Cal in one text. What each asks of its input stands at its head. -/
import Derived.RowKit
import Derived.Test.YtjippoejaieneaaGreatRows
import Derived.WalkKit
import Derived.WalkSpells
import Derived.WalkLawsBesides
import Derived.Lib.Hide
import Derived.Lib.BufferWrite
import Derived.Maps.StringElems
import Derived.Maps.AppendAt
import Derived.Laws.IdiomStrings
import Derived.Laws.CopyRow
import Derived.Laws.MakeOwn
import Derived.Deep.QuietTactic
import Derived.BigQuiet
import Derived.Deep.MidRow
import Derived.Deep.WholeRow
import Derived.Deep.Cut
import Derived.Test.YtjippoejaieneaaGreatGa
import Derived.StillTailTactics
import Derived.Deep.RegionWith
import Derived.Lib.SlBuf

/- Sectors as rows of bytes, and what a disk does with them: nothing of the program. No conditions. -/
namespace Go.Proofs.YtjippoejaieneaaGreat
set_option maxRecDepth 20000
set_option linter.unusedVariables false

abbrev Bts := List UInt8
def sec (l : Bts) (i : Nat) : Bts := (l.drop (128 * i)).take 128
/-- t laid from the place o on -/
def lay (l : Bts) (o : Nat) (t : Bts) : Bts := l.take o ++ t ++ l.drop (o + t.length)
theorem sec_len {l : Bts} {i : Nat} (h : 128 * i + 128 ≤ l.length) : (sec l i).length = 128 := by simp [sec]; omega
theorem lay_len {l : Bts} {o : Nat} {t : Bts} (h : o + t.length ≤ l.length) : (lay l o t).length = l.length := by simp [lay]; omega
theorem sec_get (l : Bts) (i j : Nat) (hj : j < 128) : (sec l i)[j]? = l[128 * i + j]? := by
  unfold sec
  rw [List.getElem?_take, if_pos hj, List.getElem?_drop]
theorem sec_get_none (l : Bts) (i j : Nat) (hj : 128 ≤ j) : (sec l i)[j]? = none := by
  unfold sec
  rw [List.getElem?_take, if_neg (by omega)]
theorem lay_get {l : Bts} {o : Nat} {t : Bts} (h : o + t.length ≤ l.length) (j : Nat) : (lay l o t)[j]? = if o ≤ j ∧ j < o + t.length then t[j - o]? else l[j]? := by
  unfold lay
  have h1 : (l.take o).length = o := by simp; omega
  rw [List.append_assoc]
  by_cases a : j < o
  · rw [List.getElem?_append_left (by omega), if_neg (by omega), List.getElem?_take, if_pos a]
  · rw [List.getElem?_append_right (by omega), h1]
    by_cases b : j < o + t.length
    · rw [List.getElem?_append_left (by omega), if_pos ⟨by omega, b⟩]
    · rw [List.getElem?_append_right (by omega), if_neg (by omega), List.getElem?_drop]
      congr 1
      omega
theorem sec_lay_same {l : Bts} {i : Nat} {t : Bts} (h : 128 * i + 128 ≤ l.length) (ht : t.length ≤ 128) : sec (lay l (128 * i) t) i = t ++ (sec l i).drop t.length := by
  apply List.ext_getElem?
  intro j
  by_cases hj : j < 128
  · rw [sec_get _ _ _ hj, lay_get (by omega)]
    by_cases a : j < t.length
    · rw [if_pos (by omega), List.getElem?_append_left a]; congr 1; omega
    · rw [if_neg (by omega), List.getElem?_append_right (by omega), List.getElem?_drop, sec_get _ _ _ (by omega)]; congr 1; omega
  · rw [sec_get_none _ _ _ (by omega), List.getElem?_eq_none]
    have := sec_len (i := i) h
    simp [this]; omega
theorem sec_lay_other {l : Bts} {i j : Nat} {t : Bts} (h : 128 * i + 128 ≤ l.length) (ht : t.length ≤ 128) (hne : i ≠ j) : sec (lay l (128 * i) t) j = sec l j := by
  apply List.ext_getElem?
  intro k
  by_cases hk : k < 128
  · rw [sec_get _ _ _ hk, sec_get _ _ _ hk, lay_get (by omega), if_neg (by omega)]
  · rw [sec_get_none _ _ _ (by omega), sec_get_none _ _ _ (by omega)]
theorem ext_sec {a b : Bts} {c : Nat} (ha : a.length = 128 * c) (hb : b.length = 128 * c) (h : ∀ i, i < c → sec a i = sec b i) : a = b := by
  apply List.ext_getElem?
  intro j
  by_cases hj : j < 128 * c
  · have h1 := h (j / 128) (by omega)
    have h2 : (sec a (j / 128))[j % 128]? = (sec b (j / 128))[j % 128]? := by rw [h1]
    rw [sec_get _ _ _ (by omega), sec_get _ _ _ (by omega)] at h2
    rwa [show 128 * (j / 128) + j % 128 = j by omega] at h2
  · rw [List.getElem?_eq_none (by omega), List.getElem?_eq_none (by omega)]
/-- the bytes whose sectors are these -/
def secs (c : Nat) (g : Nat → Bts) : Bts := (List.range c).flatMap g
theorem secs_zero (g : Nat → Bts) : secs 0 g = [] := rfl
theorem secs_succ (c : Nat) (g : Nat → Bts) : secs (c + 1) g = secs c g ++ g c := by simp [secs, List.range_succ]
theorem secs_len {c : Nat} {g : Nat → Bts} (h : ∀ i, i < c → (g i).length = 128) : (secs c g).length = 128 * c := by
  induction c with
  | zero => rfl
  | succ c ih => rw [secs_succ, List.length_append, ih (fun i hi => h i (by omega)), h c (by omega)]; omega
theorem sec_secs {c : Nat} {g : Nat → Bts} (h : ∀ i, i < c → (g i).length = 128) (i : Nat) (hi : i < c) : sec (secs c g) i = g i := by
  induction c with
  | zero => omega
  | succ c ih =>
    have hl := secs_len (c := c) (g := g) (fun i hi => h i (by omega))
    rw [secs_succ]
    unfold sec
    by_cases e : i = c
    · subst e
      rw [List.drop_append_of_le_length (by omega), List.drop_of_length_le (by omega), List.nil_append, List.take_of_length_le (by rw [h i (by omega)]; omega)]
    · rw [List.drop_append_of_le_length (by omega), List.take_append_of_le_length (by simp; omega)]
      exact ih (fun i hi => h i (by omega)) (by omega)
theorem secs_same {c : Nat} {g g' : Nat → Bts} (h : ∀ i, i < c → g i = g' i) : secs c g = secs c g' := by
  induction c with
  | zero => rfl
  | succ c ih => rw [secs_succ, secs_succ, ih (fun i hi => h i (by omega)), h c (by omega)]
theorem secs_self {l : Bts} {c : Nat} (h : l.length = 128 * c) : secs c (sec l) = l :=
  ext_sec (c := c) (secs_len fun i hi => sec_len (by omega)) h fun i hi => sec_secs (fun i hi => sec_len (by omega)) i hi

/-! ### a disk -/
structure St where
  safe : Bts
  wr : Nat → Option Bts
  dead : Bool
  armed : Nat
  ch : List Int
def St.count (S : St) : Nat := S.safe.length / 128
structure St.ok (S : St) : Prop where
  len : S.safe.length = 128 * S.count
  lo : 1 ≤ S.count
  hi : S.count ≤ 4096
  wr : ∀ i s, S.wr i = some s → i < S.count ∧ s.length = 128
  armed : S.armed < 9223372036854775808
  ch : ∀ x ∈ S.ch, -9223372036854775808 ≤ x ∧ x < 9223372036854775808
  chl : S.ch.length ≤ 4096
/-- how many of a sector's written bytes choices leave -/
def part (ch : List Int) (i : Nat) : Nat := (min (max (ch.getD i 0) 0) 128).toNat
theorem part_le (ch : List Int) (i : Nat) : part ch i ≤ 128 := by unfold part; omega
def St.one (S : St) (f : Nat → Nat) (i : Nat) : Bts :=
  match S.wr i with
  | some s => s.take (f i) ++ (sec S.safe i).drop (f i)
  | none => sec S.safe i
theorem St.one_len {S : St} (h : S.ok) (f : Nat → Nat) (hf : ∀ i, f i ≤ 128) (i : Nat) (hi : i < S.count) : (S.one f i).length = 128 := by
  have h1 := h.len
  have h2 := sec_len (l := S.safe) (i := i) (by omega)
  have h3 := hf i
  unfold St.one
  split
  · rename_i s hs
    have := (h.wr i s hs).2
    simp [h2, this]; omega
  · exact h2
/-- all sectors, of each unsafe one the first written bytes, as many as f says -/
def St.left (S : St) (f : Nat → Nat) : Bts := secs S.count (S.one f)
theorem St.left_len {S : St} (h : S.ok) (f : Nat → Nat) (hf : ∀ i, f i ≤ 128) : (S.left f).length = 128 * S.count := secs_len fun i hi => S.one_len h f hf i hi
def full : Nat → Nat := fun _ => 128
def St.image (S : St) : Bts := S.left full
def St.after (S : St) (ch : List Int) : Bts := S.left (part ch)
def St.lose (S : St) (ch : List Int) : St := ⟨S.after ch, fun _ => none, true, 0, []⟩
def newS (l : Bts) : St := ⟨l, fun _ => none, false, 0, []⟩
/-- a change is counted: does the power go? -/
def St.change (S : St) : St × Int :=
  if S.armed = 0 then (S, 0) else if S.armed = 1 then ({ S with armed := 0 }.lose S.ch, 2) else ({ S with armed := S.armed - 1 }, 0)
def St.put (S : St) (i : Nat) (s : Bts) : St := { S with wr := fun j => if j = i then some s else S.wr j }
def St.write (S : St) (at' : Int) (s : Bts) : St × Int :=
  if S.dead then (S, 2) else if at' < 0 ∨ (S.count : Int) ≤ at' then (S, 71) else if s.length ≠ 128 then (S, 72) else (S.put at'.toNat s).change
/-- the sectors from a on, up to b, made safe -/
def St.calm (S : St) (a b : Nat) : St :=
  { S with safe := secs S.count (fun i => if a ≤ i ∧ i < b then S.one full i else sec S.safe i), wr := fun i => if a ≤ i ∧ i < b then none else S.wr i }
def St.flush (S : St) (f n : Int) : St × Int :=
  if S.dead then (S, 2) else if f < 0 ∨ n < 0 ∨ (S.count : Int) - n < f then (S, 71) else if S.change.2 = 0 then (S.change.1.calm f.toNat (f.toNat + n.toNat), 0) else S.change
def St.arm (S : St) (n : Int) (ch : List Int) : St × Int :=
  if S.dead then (S, 2) else if n < 0 then (S, 1) else if n = 0 then ({ S with armed := 0, ch := [] }, 0) else ({ S with armed := n.toNat, ch := ch.take S.count }, 0)
def St.crash (S : St) (ch : List Int) : St × Int := if S.dead then (S, 2) else (S.lose ch, 0)
def St.revive (S : St) : St := { S with dead := false, armed := 0, ch := [] }
def St.read (S : St) (at' : Int) : Bts × Int :=
  if S.dead then ([], 2) else if at' < 0 ∨ (S.count : Int) ≤ at' then ([], 71) else (S.one full at'.toNat, 0)
/-- the numbers of the unsafe ones, rising -/
def St.waiting (S : St) : List Nat := (List.range S.count).filter fun i => (S.wr i).isSome

theorem St.count_of {S T : St} (h : S.safe.length = T.safe.length) : S.count = T.count := by unfold St.count; rw [h]
theorem St.ok.lose {S : St} (h : S.ok) (ch : List Int) : (S.lose ch).ok ∧ (S.lose ch).count = S.count := by
  have h1 := S.left_len h (part ch) (part_le ch)
  have e : (S.lose ch).count = S.count := St.count_of (by show (S.left (part ch)).length = _; rw [h1, h.len])
  exact ⟨⟨by rw [e]; exact h1, by rw [e]; exact h.lo, by rw [e]; exact h.hi, (fun i s hs => nomatch hs), by show 0 < _; omega, (fun x hx => nomatch hx), Nat.zero_le _⟩, e⟩
theorem St.ok.new {l : Bts} (h1 : l.length ≠ 0) (h2 : l.length % 128 = 0) (h3 : l.length ≤ 524288) : (newS l).ok :=
  ⟨by show l.length = 128 * (l.length / 128); omega, by show 1 ≤ l.length / 128; omega, by show l.length / 128 ≤ 4096; omega, (fun i s hs => nomatch hs), by show 0 < _; omega, (fun x hx => nomatch hx), Nat.zero_le _⟩
theorem St.ok.arm0 {S : St} (h : S.ok) (n : Nat) (hn : n < 9223372036854775808) : ({ S with armed := n } : St).ok := ⟨h.len, h.lo, h.hi, h.wr, hn, h.ch, h.chl⟩
theorem St.ok.change {S : St} (h : S.ok) : S.change.1.ok ∧ S.change.1.count = S.count := by
  unfold St.change
  split
  · exact ⟨h, rfl⟩
  · split
    · exact (h.arm0 0 (by omega)).lose S.ch
    · exact ⟨h.arm0 _ (by have := h.armed; omega), rfl⟩
theorem St.ok.put {S : St} (h : S.ok) {i : Nat} {s : Bts} (hi : i < S.count) (hs : s.length = 128) : (S.put i s).ok :=
  ⟨h.len, h.lo, h.hi, fun j t ht => by
    change (if j = i then some s else S.wr j) = some t at ht
    split at ht
    · rename_i e; subst e; cases ht; exact ⟨hi, hs⟩
    · exact h.wr j t ht, h.armed, h.ch, h.chl⟩
theorem St.ok.write {S : St} (h : S.ok) (at' : Int) (s : Bts) : (S.write at' s).1.ok ∧ (S.write at' s).1.count = S.count := by
  unfold St.write
  split
  · exact ⟨h, rfl⟩
  · split
    · exact ⟨h, rfl⟩
    · split
      · exact ⟨h, rfl⟩
      · exact (h.put (by omega) (by omega)).change
theorem St.calm_len {S : St} (h : S.ok) (a b : Nat) : (S.calm a b).safe.length = 128 * S.count := secs_len fun i hi => by
  split
  · exact S.one_len h full (fun _ => Nat.le_refl _) i hi
  · have := h.len; exact sec_len (by omega)
theorem St.calm_count {S : St} (h : S.ok) (a b : Nat) : (S.calm a b).count = S.count := St.count_of (by rw [S.calm_len h, h.len])
theorem St.ok.calm {S : St} (h : S.ok) (a b : Nat) : (S.calm a b).ok := by
  have e := S.calm_count h a b
  refine ⟨by rw [e, S.calm_len h], by rw [e]; exact h.lo, by rw [e]; exact h.hi, fun i s hs => ?_, h.armed, h.ch, h.chl⟩
  rw [e]
  change (if a ≤ i ∧ i < b then none else S.wr i) = some s at hs
  split at hs
  · cases hs
  · exact h.wr i s hs
theorem St.ok.flush {S : St} (h : S.ok) (f n : Int) : (S.flush f n).1.ok ∧ (S.flush f n).1.count = S.count := by
  unfold St.flush
  split
  · exact ⟨h, rfl⟩
  · split
    · exact ⟨h, rfl⟩
    · split
      · exact ⟨h.change.1.calm _ _, by rw [St.calm_count h.change.1]; exact h.change.2⟩
      · exact h.change
theorem St.ok.arm {S : St} (h : S.ok) (n : Int) (ch : List Int) (hn : n < 9223372036854775808) (hc : ∀ x ∈ ch, -9223372036854775808 ≤ x ∧ x < 9223372036854775808) : (S.arm n ch).1.ok ∧ (S.arm n ch).1.count = S.count := by
  unfold St.arm
  split
  · exact ⟨h, rfl⟩
  · split
    · exact ⟨h, rfl⟩
    · split
      · exact ⟨⟨h.len, h.lo, h.hi, h.wr, by show 0 < _; omega, (fun x hx => nomatch hx), Nat.zero_le _⟩, rfl⟩
      · exact ⟨⟨h.len, h.lo, h.hi, h.wr, by show n.toNat < _; omega, fun x hx => hc x (List.mem_of_mem_take hx), by show (ch.take S.count).length ≤ 4096; have := h.hi; simp; omega⟩, rfl⟩
theorem St.ok.crash {S : St} (h : S.ok) (ch : List Int) : (S.crash ch).1.ok ∧ (S.crash ch).1.count = S.count := by
  unfold St.crash
  split
  · exact ⟨h, rfl⟩
  · exact h.lose ch
theorem St.ok.revive {S : St} (h : S.ok) : S.revive.ok := ⟨h.len, h.lo, h.hi, h.wr, by show 0 < _; omega, (fun x hx => nomatch hx), Nat.zero_le _⟩
end Go.Proofs.YtjippoejaieneaaGreat

/- What a world holds of a disk: its cells, its row of bytes, its map. No conditions. -/
namespace Go.Proofs.YtjippoejaieneaaGreat
open Go.RowKit Go.Maps
set_option maxRecDepth 20000
set_option linter.unusedVariables false

theorem block_lt {w : World} {b : Nat} {o : Obj} (h : w.heap[b]? = some o) : b < w.heap.size := by
  rcases Nat.lt_or_ge b w.heap.size with h' | h'
  · exact h'
  · simp [Array.getElem?_eq_none h'] at h
theorem block_setCell {w : World} {b o : Nat} {C : Array Value} {t : TypeId} {fr : Nat × Nat} {u : Value} (h : w.heap[b]? = some (.cells C t fr)) :
    (w.setCell ⟨b, o, none⟩ u).heap[b]? = some (.cells (C.setIfInBounds o u) t fr) := by
  have hlt := block_lt h
  have h' : w.heap[b] = .cells C t fr := by simpa [Array.getElem?_eq_getElem hlt] using h
  show (w.heap.modify b _)[b]? = _
  rw [Array.getElem?_eq_getElem (by simpa using hlt), Array.getElem_modify_self, h']
  rfl
theorem block_setCell_other {w : World} {b : Nat} {x : Addr} {u : Value} (h : b ≠ x.block) : (w.setCell x u).heap[b]? = w.heap[b]? := heap_setCell_other w x b u h
theorem block_free {w : World} {b o : Nat} {C : Array Value} {t : TypeId} (h : w.heap[b]? = some (.cells C t (0, 0))) : w.frozen? ⟨b, o, none⟩ = false := by simp [World.frozen?, h]
theorem block_new (w : World) (o : Obj) : (w.alloc o).heap[w.heap.size]? = some o := heap_alloc_last w o
theorem block_alloc {w : World} {b : Nat} {o : Obj} (h : w.heap[b]? = some o) (o2 : Obj) : (w.alloc o2).heap[b]? = some o := by
  rw [Below.heap_alloc w o2 b (block_lt h)]; exact h
theorem heap_below {w w' : World} {B C : Nat} {o : Obj} (h : w.heap[B]? = some o) (hb : Below C w w') (hlt : B < C) : w'.heap[B]? = some o := by
  rw [hb.block B hlt]; exact h
theorem addr_at (b o i : Nat) : (⟨b, o, none⟩ : Addr).add i = ⟨b, o + i, none⟩ := Addr.add_mid b o i
theorem below_drewN {B : Nat} {a w : World} (h : Below B a w) (n : Nat) : Below B a (w.drewN n) := ⟨h.os, h.tape, h.output, h.size, h.block⟩
theorem below_trans {w w1 w2 : World} (h : Below w.heap.size w w1) (k : Below w1.heap.size w1 w2) : Below w.heap.size w w2 := h.trans (k.mono h.size)
def cellB (b : UInt8) : Value := .int .u8 (b.toNat : Int)

/-! ### what turns -/
/-- only blocks of F have turned -/
structure Ch (F : Nat → Prop) (w w' : World) : Prop where
  os : w'.os = w.os
  tape : w'.tape = w.tape
  output : w'.output = w.output
  size : w.heap.size ≤ w'.heap.size
  block : ∀ k, k < w.heap.size → ¬ F k → w'.heap[k]? = w.heap[k]?
theorem Ch.refl (F : Nat → Prop) (w : World) : Ch F w w := ⟨rfl, rfl, rfl, Nat.le_refl _, fun _ _ _ => rfl⟩
theorem Ch.of_below {F : Nat → Prop} {w w' : World} (h : Below w.heap.size w w') : Ch F w w' := ⟨h.os, h.tape, h.output, h.size, fun k hk _ => h.block k hk⟩
/-- F' has blocks of F and new ones -/
def Gr (F F' : Nat → Prop) (w w' : World) : Prop := ∀ k, F' k → F k ∨ (w.heap.size ≤ k ∧ k < w'.heap.size)
theorem Ch.trans {F F' : Nat → Prop} {w w1 w2 : World} (h : Ch F w w1) (hg : Gr F F' w w1) (k : Ch F' w1 w2) : Ch F w w2 :=
  ⟨k.os.trans h.os, k.tape.trans h.tape, k.output.trans h.output, Nat.le_trans h.size k.size, fun i hi hn => (k.block i (Nat.lt_of_lt_of_le hi h.size) (fun q => by rcases hg i q with q | q; exact hn q; omega)).trans (h.block i hi hn)⟩
theorem Gr.refl (F : Nat → Prop) (w w' : World) : Gr F F w w' := fun _ h => .inl h
theorem Gr.trans {F F1 F2 : Nat → Prop} {w w1 w2 : World} (h : Gr F F1 w w1) (k : Gr F1 F2 w1 w2) (hs : w.heap.size ≤ w1.heap.size) (hs2 : w1.heap.size ≤ w2.heap.size) : Gr F F2 w w2 := fun i hi => by
  rcases k i hi with q | q
  · rcases h i q with q | q
    · exact .inl q
    · right; omega
  · right; omega
theorem Ch.setCell {F : Nat → Prop} {w w' : World} (h : Ch F w w') {p : Nat} (hp : F p) (o : Nat) (v : Value) : Ch F w (w'.setCell ⟨p, o, none⟩ v) :=
  ⟨h.os, h.tape, h.output, by rw [show (w'.setCell ⟨p, o, none⟩ v).heap.size = w'.heap.size from by simp [World.setCell]]; exact h.size, fun k hk hn => by rw [block_setCell_other (fun e => hn (by subst e; exact hp))]; exact h.block k hk hn⟩
theorem Ch.setRow {F : Nat → Prop} {w w' : World} (h : Ch F w w') {p : Nat} (hp : F p) (cs : Array Value) : Ch F w (w'.setRow p cs) :=
  ⟨h.os, h.tape, h.output, by rw [setRow_size]; exact h.size, fun k hk hn => by rw [setRow_other _ _ _ _ (fun e => hn (by subst e; exact hp))]; exact h.block k hk hn⟩
theorem Ch.drew {F : Nat → Prop} {w w' : World} (h : Ch F w w') : Ch F w w'.drew := ⟨h.os, h.tape, h.output, h.size, h.block⟩
theorem Ch.grown {F : Nat → Prop} {w w' w'' : World} {r : Option Nat} (h : Ch F w w') (k : w'.grownBy w'' r) (hr : ∀ j, r = some j → F j ∨ w.heap.size ≤ j) : Ch F w w'' :=
  ⟨k.os.trans h.os, k.tape.trans h.tape, k.output.trans h.output, Nat.le_trans h.size k.size, fun i hi hn => (k.block i (Nat.lt_of_lt_of_le hi h.size) (fun e => by
    rcases hr i e.symm with q | q
    · exact hn q
    · omega)).trans (h.block i hi hn)⟩
theorem Ch.below {F : Nat → Prop} {B : Nat} {w w' : World} (h : Ch F w w') (hB : B ≤ w.heap.size) (hF : ∀ k, F k → B ≤ k) : Below B w w' :=
  ⟨h.os, h.tape, h.output, h.size, fun k hk => h.block k (by omega) (fun q => by have := hF k q; omega)⟩
theorem Ch.then_below {F : Nat → Prop} {w w' w'' : World} (h : Ch F w w') (k : Below w'.heap.size w' w'') : Ch F w w'' :=
  ⟨k.os.trans h.os, k.tape.trans h.tape, k.output.trans h.output, Nat.le_trans h.size k.size, fun i hi hn => (k.block i (Nat.lt_of_lt_of_le hi h.size)).trans (h.block i hi hn)⟩

/-! ### a row of bytes -/
/-- a mark that stands behind the row's end -/
def Past (cur : Array Value) (fr : Nat × Nat) : Prop := fr.2 = 0 ∨ cur.size ≤ fr.1
theorem Past.free {w : World} {g : Nat} {cur : Array Value} {t : TypeId} {fr : Nat × Nat} (h : Past cur fr) (hg : w.heap[g]? = some (.cells cur t fr)) (j : Nat) (hj : j < cur.size) : w.frozen? ⟨g, j, none⟩ = false := by
  obtain ⟨lo, hi⟩ := fr
  simp only [World.frozen?, hg]
  rcases h with h | h
  · simp at h; simp; omega
  · simp at h; simp; omega
theorem storeM (g o : Nat) (t : TypeId) : ∀ (vs : List Value) (i : Nat) (cur : Array Value) (fr : Nat × Nat) (w : World), w.heap[g]? = some (.cells cur t fr) → Past cur fr → o + i + vs.length ≤ cur.size → (∀ v ∈ vs, v.oneCell' = true) →
    (storeCells ⟨g, o, none⟩ vs i).run Tryz.prog w = .ok () (w.setRow g (cur.toList.take (o + i) ++ vs ++ cur.toList.drop (o + i + vs.length)).toArray)
  | [], i, cur, fr, w, hg, _, _, _ => by
    have e : (cur.toList.take (o + i) ++ [] ++ cur.toList.drop (o + i + 0)).toArray = cur := by rw [List.append_nil, Nat.add_zero, List.take_append_drop]
    rw [List.length_nil, e, setRow_self w g cur t fr hg]
    rfl
  | v :: rest, i, cur, fr, w, hg, hp, hl, h1 => by
    have hl2 : o + i + (rest.length + 1) ≤ cur.size := hl
    have hi : o + i < cur.size := by omega
    have hst : (store ((⟨g, o, none⟩ : Addr).add i) v).run Tryz.prog w = .ok () (w.setRow g (cur.setIfInBounds (o + i) v)) := by
      rw [addr_at, run_store Tryz.prog w _ v _ (h1 v List.mem_cons_self), cell_of_row w g _ cur t fr hg, Array.getElem?_eq_getElem hi]
      simp only [hp.free hg (o + i) hi, setCell_eq_setRow w g (o + i) cur t fr v hg]
      rfl
    have hp2 : Past (cur.setIfInBounds (o + i) v) fr := by unfold Past at *; simpa using hp
    have ih := storeM g o t rest (i + 1) (cur.setIfInBounds (o + i) v) fr _ (setRow_heap w g cur _ t fr hg) hp2 (by rw [Array.size_setIfInBounds]; omega) (fun x hx => h1 x (List.mem_cons_of_mem _ hx))
    simp only [storeCells, Sem.run_bind, hst, Result.andThen_ok, ih, setRow_setRow]
    have e := list_seg_step cur.toList (o + i) v rest (by rw [Array.length_toList]; omega)
    rw [List.length_cons, ← e, Array.toList_setIfInBounds]
    rfl
/-- block g is a row of cap cells that begins with l -/
def RowB (w : World) (g cap : Nat) (l : Bts) : Prop :=
  ∃ (cur : Array Value) (fr : Nat × Nat), w.heap[g]? = some (.cells cur 5 fr) ∧ Past cur fr ∧ l.length ≤ cap ∧ cap ≤ maxLen ∧ cur.size = cap ∧ cur.toList.take l.length = l.map cellB
theorem RowB.of_heap {w w' : World} {g cap : Nat} {l : Bts} (h : RowB w g cap l) (e : w'.heap[g]? = w.heap[g]?) : RowB w' g cap l := by
  obtain ⟨cur, fr, h1, h2⟩ := h
  exact ⟨cur, fr, by rw [e]; exact h1, h2⟩
theorem RowB.lt {w : World} {g cap : Nat} {l : Bts} (h : RowB w g cap l) : g < w.heap.size := by
  obtain ⟨cur, fr, h1, h2⟩ := h
  exact block_lt h1
theorem RowB.le {w : World} {g cap : Nat} {l : Bts} (h : RowB w g cap l) : l.length ≤ cap := by
  obtain ⟨cur, fr, h1, h2, h3, _⟩ := h
  exact h3
theorem RowB.cell {w : World} {g cap : Nat} {l : Bts} (h : RowB w g cap l) (i : Nat) (hi : i < l.length) : w.cell? ⟨g, i, none⟩ = some (.int .u8 ((l.getD i 0).toNat : Int)) := by
  obtain ⟨cur, fr, h3, h4, h5, h6, h7, h8⟩ := h
  rw [cell_of_row w g i cur 5 fr h3]
  have h9 : (cur.toList.take l.length)[i]? = (l.map cellB)[i]? := by rw [h8]
  rw [List.getElem?_take, if_pos hi, List.getElem?_map, List.getElem?_eq_getElem hi] at h9
  rw [← Array.getElem?_toList, h9]
  simp [cellB, List.getD, List.getElem?_eq_getElem hi]
theorem baList (s : ByteArray) : s.data.toList.length = s.size := by simp
def ofL (l : Bts) : ByteArray := ⟨l.toArray⟩
theorem ofL_list (l : Bts) : (ofL l).data.toList = l := by simp [ofL]
theorem ofL_size (l : Bts) : (ofL l).size = l.length := by simp [ofL, ByteArray.size]
theorem ofL_of (s : ByteArray) : ofL s.data.toList = s := by simp [ofL]
theorem ofL_eq {s : ByteArray} {l : Bts} (h : s.data.toList = l) : s = ofL l := by rw [← h, ofL_of]
/-- '[]byte(s)' -/
theorem RowB.made (w : World) (s : ByteArray) (hs : s.size ≤ 140737488355328) :
    ∃ cap w', (convert 9 77 (.string s)).run Tryz.prog w = .ok (.slice (some ⟨w.heap.size, 0, none⟩) s.size cap) w' ∧ RowB w' w.heap.size cap s.data.toList ∧ Below w.heap.size w w' ∧ w'.heap.size = w.heap.size + 1 := by
  have hr := run_bytes_of_string (P := Tryz.prog) w 9 77 5 s Tryz.underlying9 Tryz.underlying77 Tryz.underlying5
  have hge := grownCap_ge w s.size 0 5
  have hcm : grownCap w s.size 0 5 ≤ maxLen := grownCap_le_maxLen w s.size 0 5 (by unfold maxLen; omega)
  refine ⟨_, _, hr, ⟨_, _, heap_alloc_new w.drew _, Or.inr (Nat.le_refl _), by rw [baList]; exact hge, hcm, ?_, ?_⟩, ?_, ?_⟩
  · simp [bytesRow]; omega
  · simp [bytesRow, cellB]
  · exact Below.alloc (show Below w.heap.size w w.drew from ⟨rfl, rfl, rfl, Nat.le_refl _, fun _ _ => rfl⟩) (Nat.le_refl _) _
  · show (Array.push _ _).size = _
    simp
theorem Tryz.size5 : (Tryz.prog.info? 5).map (·.size) = some 1 := by kernel_rfl
/-- 'copy(d[o:], s)' -/
theorem RowB.copy {w : World} {g cap : Nat} {l : Bts} (h : RowB w g cap l) (o dLen dCap : Nat) (s : ByteArray) (ty : TypeId) (hs : s.size ≤ dLen) (ho : o + s.size ≤ l.length) :
    ∃ cs, (Builtin.copy_ #[77, 9] ty #[.slice (some ⟨g, o, none⟩) dLen dCap, .string s]).run Tryz.prog w = .ok (goInt s.size) (w.setRow g cs) ∧ RowB (w.setRow g cs) g cap (lay l o s.data.toList) := by
  obtain ⟨cur, fr, hg, hp, h1, h2, h3, h4⟩ := h
  have hsz : s.data.toList.length = s.size := by simp
  have hst := storeM g o 5 (s.data.toList.map cellB) 0 cur fr w hg hp (by rw [List.length_map, hsz]; omega) (by intro v hv; simp only [List.mem_map] at hv; obtain ⟨b, _, rfl⟩ := hv; rfl)
  rw [List.length_map, hsz] at hst
  simp only [Nat.add_zero] at hst
  refine ⟨(cur.toList.take o ++ s.data.toList.map cellB ++ cur.toList.drop (o + s.size)).toArray, ?_, ⟨_, fr, setRow_heap w g cur _ 5 fr hg, ?_, ?_, h2, ?_, ?_⟩⟩
  · obtain ⟨i, hi, hi1⟩ : ∃ i, Tryz.prog.info? 5 = some i ∧ i.size = 1 := by
      have := Tryz.size5
      cases hq : Tryz.prog.info? 5 with
      | none => simp [hq] at this
      | some i => exact ⟨i, rfl, by simpa [hq] using this⟩
    have e : List.map (fun b : UInt8 => Value.int IntKind.u8 (b.toNat : Int)) s.data.toList = s.data.toList.map cellB := rfl
    have em : Nat.min s.size dLen = s.size := Nat.min_eq_left hs
    have em2 : Nat.min dLen s.size = s.size := Nat.min_eq_right hs
    have et : List.take s.size (s.data.toList.map cellB) = s.data.toList.map cellB := List.take_of_length_le (by rw [List.length_map, hsz]; omega)
    simp [Builtin.copy_, run_underlying Tryz.underlying77, Builtin.lenOf, Builtin.firstCells, sizeOf, typeInfo, hi, em]
    rw [e, et, hst]
    simp [Result.andThen]
  · unfold Past at *
    rcases hp with hp | hp
    · exact .inl hp
    · refine .inr (Nat.le_trans ?_ hp)
      simp; omega
  · rw [lay_len (by omega)]; exact h1
  · simp; omega
  · rw [lay_len (by omega)]
    apply List.ext_getElem?
    intro j
    have h4j : (cur.toList.take l.length)[j]? = (l.map cellB)[j]? := by rw [h4]
    rw [List.getElem?_take, List.getElem?_map] at h4j
    rw [List.toList_toArray, List.getElem?_take, List.getElem?_map, lay_get (by omega), baList]
    by_cases hj : j < l.length
    · rw [if_pos hj]
      rw [if_pos hj] at h4j
      rw [List.append_assoc]
      by_cases a : j < o
      · rw [List.getElem?_append_left (by simp; omega), if_neg (by omega), List.getElem?_take, if_pos a, h4j]
      · rw [List.getElem?_append_right (by simp; omega)]
        have eo : (List.take o cur.toList).length = o := by simp; omega
        rw [eo]
        by_cases b : j < o + s.size
        · rw [if_pos (by omega), List.getElem?_append_left (by simp; omega), List.getElem?_map]
        · rw [if_neg (by omega), List.getElem?_append_right (by simp; omega), List.getElem?_drop, List.length_map, baList, ← h4j]
          congr 1; omega
    · rw [if_neg hj, if_neg (by omega), List.getElem?_eq_none (by omega)]
      rfl
theorem take_of_row {w : World} {g cap : Nat} {l : Bts} (h : RowB w g cap l) : ∀ j u, (l.map cellB)[j]? = some u → w.cell? ((⟨g, 0, none⟩ : Addr).add j) = some u := by
  obtain ⟨cur, fr, h3, h4, h5, h6, h7, h8⟩ := h
  intro j u hu
  rw [addr_at, Nat.zero_add, cell_of_row w g j cur 5 fr h3, ← Array.getElem?_toList]
  rw [← h8, List.getElem?_take] at hu
  split at hu
  · exact hu
  · cases hu
/-- 'string(l[o:][:n])' -/
theorem RowB.string {w w' : World} {g cap : Nat} {l : Bts} (h : RowB w g cap l) (o n c : Nat) (hn : o + n ≤ l.length) :
    (convert 77 9 (.slice (some ⟨g, o, none⟩) n c)).run Tryz.prog w = .ok (.string (ofL ((l.drop o).take n))) w := by
  have e : ((l.drop o).take n).length = n := by simp; omega
  have := run_convert_bytes_back (P := Tryz.prog) w 77 9 5 ⟨g, o, none⟩ c ((l.drop o).take n) Tryz.underlying77 Tryz.underlying5 Tryz.underlying9 (fun j hj => by
    rw [addr_at, h.cell _ (by rw [e] at hj; omega)]
    rw [e] at hj
    congr 3
    simp [List.getD, List.getElem?_eq_getElem (show o + j < l.length by omega)])
  rw [e] at this
  exact this
end Go.Proofs.YtjippoejaieneaaGreat

/- A map from numbers of sectors to their written bytes, as a function. No conditions. -/
namespace Go.Proofs.YtjippoejaieneaaGreat
open Go.RowKit Go.Maps
set_option maxRecDepth 20000
open Go.ChangeMaps Go.MapKept
open Go.WideElems (Fit rd rg pl rd_val elemAt)
set_option linter.unusedVariables false

def kl (i : Nat) : Lit := .int .i64 (i : Int)
theorem kl_wf {i : Nat} (h : i < 9223372036854775808) : (kl i).wf = true := WalkArith.wf_i64 (by omega)
theorem kl_inj {i j : Nat} (h : kl i = kl j) : i = j := by unfold kl at h; injection h with _ h; omega
theorem keyed3 : Keyed Tryz.prog 3 := int_keyed Tryz.underlying3
theorem key_of {i : Nat} (h : i < 9223372036854775808) : keyOf Tryz.prog 3 (.int .i64 (i : Int)) = some (kl i) := keyOf_int_mk Tryz.underlying3 (kl_wf h)
theorem key_lit {i : Nat} (h : i < 9223372036854775808) : WideAt.IsKeyLit (kl i) := keyed3.key (key_of h)
theorem nd_le : ∀ (c : Nat) (l : List Nat), l.Nodup → (∀ x ∈ l, x < c) → l.length ≤ c
  | 0, l, _, h => by
    cases l with
    | nil => simp
    | cons a r => have := h a List.mem_cons_self; omega
  | c + 1, l, hn, h => by
    have ih := nd_le c (l.erase c) (hn.erase c) (fun x hx => by
      have h1 := h x (List.mem_of_mem_erase hx)
      have h2 : x ≠ c := fun e => by subst e; exact (hn.not_mem_erase) hx
      omega)
    have := List.length_erase (a := c) (l := l)
    split at this <;> omega

/-- block b is a map that holds M, of numbers below c -/
def MapA (w : World) (b c : Nat) (M : Nat → Option Bts) : Prop :=
  ∃ n, ∃ D : DataW Unit, w.ownsMap Tryz.prog 3 (plainElem Tryz.prog 9) b n D ∧ (∀ k, Maps.has D k = true → ∃ i, i < c ∧ k = kl i) ∧
    (∀ i, i < c → Maps.has D (kl i) = (M i).isSome) ∧ (∀ i s, i < c → M i = some s → ∀ z, D.atKey (kl i) z = .lit (.string s))
theorem MapA.lt {w : World} {b c : Nat} {M : Nat → Option Bts} (h : MapA w b c M) : b < w.heap.size := by
  obtain ⟨n, D, ho, _⟩ := h
  exact ho.lt
theorem MapA.is_map {w : World} {b c : Nat} {M : Nat → Option Bts} (h : MapA w b c M) : ∃ es clock, w.heap[b]? = some (.map es clock) := by
  obtain ⟨n, D, ⟨es, clock, hb, _⟩, _⟩ := h
  exact ⟨es, clock, hb⟩
theorem MapA.of_heap {w w' : World} {b c : Nat} {M : Nat → Option Bts} (h : MapA w b c M) (e : w'.heap[b]? = w.heap[b]?) : MapA w' b c M := by
  obtain ⟨n, D, ⟨es, clock, hb, r⟩, h1⟩ := h
  exact ⟨n, D, ⟨es, clock, e.trans hb, r⟩, h1⟩
theorem MapA.ext {w : World} {b c : Nat} {M M' : Nat → Option Bts} (h : MapA w b c M) (e : ∀ i, i < c → M i = M' i) : MapA w b c M' := by
  obtain ⟨n, D, ho, h1, h2, h3⟩ := h
  exact ⟨n, D, ho, h1, fun i hi => by rw [h2 i hi, e i hi], fun i s hi hs => h3 i s hi (by rw [e i hi]; exact hs)⟩
theorem size_le {w : World} {b n c : Nat} {D : DataW Unit} (h : w.ownsMap Tryz.prog 3 (plainElem Tryz.prog 9) b n D) (hk : ∀ k, Maps.has D k = true → ∃ i, i < c ∧ k = kl i) (hc : c < 9223372036854775808) : Maps.size D ≤ c := by
  obtain ⟨es, rfl, hp, hl⟩ := h.entries keyed3
  rw [size_eq]
  have hm : ∀ p ∈ es, ∃ i, i < c ∧ p.1 = kl i := fun p hp => hk p.1 (by
    rw [has_eq]; exact List.any_eq_true.2 ⟨p, hp, WideAt.sameKey_self (hl p hp)⟩)
  let f : Lit × DataW Unit → Nat := fun p => match p.1 with | .int _ x => x.toNat | _ => 0
  have hf : ∀ p ∈ es, f p < c ∧ p.1 = kl (f p) := fun p hp => by
    obtain ⟨i, hi, e⟩ := hm p hp
    have : f p = i := by show (match p.1 with | .int _ x => x.toNat | _ => 0) = i; rw [e]; simp [kl]
    rw [this]; exact ⟨hi, e⟩
  have hnd : (es.map f).Nodup := by
    rw [List.Nodup, List.pairwise_map]
    exact List.Pairwise.imp_of_mem (fun {a b} ha hb hne e => hne (by rw [(hf a ha).2, (hf b hb).2, e])) hp
  have := nd_le c (es.map f) hnd (fun x hx => by obtain ⟨p, hp, rfl⟩ := List.mem_map.1 hx; exact (hf p hp).1)
  simpa using this
/-- the bound on the entries may be c itself -/
theorem MapA.tight {w : World} {b c : Nat} {M : Nat → Option Bts} (h : MapA w b c M) (hc : c < 9223372036854775808) : ∃ D : DataW Unit, w.ownsMap Tryz.prog 3 (plainElem Tryz.prog 9) b c D ∧ (∀ k, Maps.has D k = true → ∃ i, i < c ∧ k = kl i) ∧
    (∀ i, i < c → Maps.has D (kl i) = (M i).isSome) ∧ (∀ i s, i < c → M i = some s → ∀ z, D.atKey (kl i) z = .lit (.string s)) := by
  obtain ⟨n, D, ho, h1, h2, h3⟩ := h
  have hs := size_le ho h1 hc
  obtain ⟨es, clock, hb, F, hn, hD⟩ := ho
  refine ⟨D, ⟨es, clock, hb, F, ?_, hD⟩, h1, h2, h3⟩
  rw [hD] at hs
  simpa [Maps.size, length_sorted] using hs
theorem MapA.made (w : World) (c : Nat) : MapA (w.alloc (.map #[] 0)) w.heap.size c (fun _ => none) :=
  ⟨0, .map [], World.ownsMap_made w Tryz.prog 3 _, fun k hk => by simp [Maps.has] at hk, fun i _ => by simp [Maps.has], fun i s _ hs => nomatch hs⟩
theorem Tryz.zero9 (w : World) : (zeroValue 9).run Tryz.prog w = .ok (.string ⟨#[]⟩) w := by kernel_rfl
theorem str_inv {v : Value} {s : Bts} {ps : List MemPlace} (h : plainElem (H := Unit) Tryz.prog 9 v = some (.lit (.string s), ps)) : v = .string (ofL s) := by
  obtain ⟨t, rfl, e, _⟩ := plainElem_string_inv Tryz.underlying9 h
  have e1 : DataW.lit (H := Unit) (Lit.string s) = DataW.lit (Lit.string t.data.toList) := congrArg Prod.fst e
  have e2 : s = t.data.toList := by simpa using e1
  rw [e2, ofL_of]
theorem MapA.look {w : World} {b c : Nat} {M : Nat → Option Bts} (h : MapA w b c M) (hc : c ≤ 4096) {i : Nat} (hi : i < c) :
    (Instr.lookup 78 (.map (some b)) (.int .i64 (i : Int)) false).run Tryz.prog w = .ok (.string (ofL ((M i).getD []))) w ∧
    (Instr.lookup 78 (.map (some b)) (.int .i64 (i : Int)) true).run Tryz.prog w = .ok (.tuple #[.string (ofL ((M i).getD [])), .bool (M i).isSome]) w := by
  obtain ⟨n, D, ho, h1, h2, h3⟩ := h
  have hz : plainElem (H := Unit) Tryz.prog 9 (.string ⟨#[]⟩) = some (.lit (.string []), []) := plainElem_string Tryz.underlying9 (by show 0 ≤ _; omega)
  obtain ⟨v, ps, hr, hv⟩ := ho.lookup keyed3 Tryz.underlying78 (Tryz.zero9 w) hz (key_of (i := i) (by omega))
  obtain ⟨v', ps', hr', hv'⟩ := ho.look_ok keyed3 Tryz.underlying78 (Tryz.zero9 w) hz (key_of (i := i) (by omega))
  have hat : D.atKey (kl i) (.lit (.string [])) = .lit (.string ((M i).getD [])) := by
    cases hM : M i with
    | some s => exact h3 i s hi hM _
    | none =>
      have := h2 i hi
      rw [hM] at this
      exact atKey_of_not_has this _
  rw [hat] at hv hv'
  rw [str_inv hv] at hr
  rw [str_inv hv', h2 i hi] at hr'
  exact ⟨hr, hr'⟩
theorem MapA.store {w : World} {b c : Nat} {M : Nat → Option Bts} (h : MapA w b c M) (hc : c ≤ 4096) {i : Nat} (hi : i < c) (s : Bts) (hs : s.length ≤ maxLen) :
    ∃ w', (Instr.mapUpdate 78 (.map (some b)) (.int .i64 (i : Int)) (.string (ofL s))).run Tryz.prog w = .ok () w' ∧ MapA w' b c (fun j => if j = i then some s else M j) ∧ w.grownBy w' (some b) ∧ w'.heap.size = w.heap.size := by
  obtain ⟨D, ho, h1, h2, h3⟩ := h.tight (by omega)
  have hv : plainElem (H := Unit) Tryz.prog 9 (.string (ofL s)) = some (.lit (.string s), []) := by
    have := plainElem_string (H := Unit) Tryz.underlying9 (s := ofL s) (by rw [ofL_size]; exact hs)
    rwa [ofL_list] at this
  have hk := key_lit (i := i) (by omega)
  obtain ⟨w', hr, ho', ht⟩ := ho.store keyed3 Tryz.underlying78 (by unfold maxLen; omega) (key_of (i := i) (by omega)) hv
  refine ⟨w', hr, ⟨_, _, ho', ?_, ?_, ?_⟩, ht.grown, ?_⟩
  · intro k hk1
    by_cases e : k = kl i
    · exact ⟨i, hi, e⟩
    · rw [has_put_other e] at hk1; exact h1 k hk1
  · intro j hj
    by_cases e : j = i
    · subst e; rw [has_put_same ho.isMap hk]; simp
    · rw [has_put_other (fun q => e (kl_inj q)), h2 j hj]; simp [e]
  · intro j t hj ht' z
    by_cases e : j = i
    · subst e
      simp at ht'
      rw [atKey_put_same ho.isMap hk, ht']
    · simp [e] at ht'
      rw [atKey_put_other (fun q => e (kl_inj q))]
      exact h3 j t hj ht' z
  · obtain ⟨es, ck, es', ck', _, rfl⟩ := ht
    simp [setBlock]
theorem MapA.drop {w : World} {b c : Nat} {M : Nat → Option Bts} (h : MapA w b c M) (hc : c ≤ 4096) {i : Nat} (hi : i < c) (ty : TypeId) :
    ∃ w', (Builtin.delete_ #[78, 3] ty #[.map (some b), .int .i64 (i : Int)]).run Tryz.prog w = .ok (.tuple #[]) w' ∧ MapA w' b c (fun j => if j = i then none else M j) ∧ w.grownBy w' (some b) ∧ w'.heap.size = w.heap.size := by
  obtain ⟨n, D, ho, h1, h2, h3⟩ := h
  obtain ⟨w', hr, ho', ht⟩ := ho.drop keyed3 Tryz.underlying78 (key_of (i := i) (by omega)) ty
  refine ⟨w', hr, ⟨_, _, ho', ?_, ?_, ?_⟩, ht.grown, ?_⟩
  · intro k hk1
    by_cases e : k = kl i
    · subst e; rw [has_del_same] at hk1; cases hk1
    · rw [has_del_other e] at hk1; exact h1 k hk1
  · intro j hj
    by_cases e : j = i
    · subst e; rw [has_del_same]; simp
    · rw [has_del_other (fun q => e (kl_inj q)), h2 j hj]; simp [e]
  · intro j t hj ht' z
    by_cases e : j = i
    · simp [e] at ht'
    · simp [e] at ht'
      rw [atKey_del_other (fun q => e (kl_inj q))]
      exact h3 j t hj ht' z
  · obtain ⟨es, ck, es', ck', _, rfl⟩ := ht
    simp [setBlock]
theorem MapA.clear {w : World} {b c : Nat} {M : Nat → Option Bts} (h : MapA w b c M) :
    ∃ w', (∀ ty, (Builtin.clear_ #[78] ty #[.map (some b)]).run Tryz.prog w = .ok (.tuple #[]) w') ∧ MapA w' b c (fun _ => none) ∧ w.grownBy w' (some b) ∧ w'.heap.size = w.heap.size := by
  obtain ⟨n, D, ⟨es, clock, hb, F, hn, hD⟩, h1, h2, h3⟩ := h
  have hrun : ∀ ty, (Builtin.clear_ #[78] ty #[.map (some b)]).run Tryz.prog w = .ok (.tuple #[]) (setBlock w b (.map #[] clock)) := by
    intro ty
    simp [Builtin.clear_, run_underlying Tryz.underlying78, MapKept.run_getObj_map hb, MapKept.run_setObj_map _ hb, Result.andThen]
    rfl
  refine ⟨_, hrun, ⟨0, .map [], ⟨#[], clock, heap_setBlock_same hb _, ⟨by simp, ?_, by simp⟩, by simp, by simp⟩, fun k hk => by simp [Maps.has] at hk, fun i _ => by simp [Maps.has], fun i s _ hs => nomatch hs⟩, ⟨rfl, rfl, rfl, by simp [setBlock], fun i _ hi => heap_setBlock_other hb _ (fun e => hi (by rw [e]))⟩, by simp [setBlock]⟩
  exact stamped_empty clock
end Go.Proofs.YtjippoejaieneaaGreat

/- What a world holds of a disk, and the small calls on it. No conditions. -/
namespace Go.Proofs.YtjippoejaieneaaGreat
open Go.RowKit Go.Maps
set_option maxRecDepth 20000
set_option linter.unusedVariables false

def dcells (sb n cap mb : Nat) (dead : Bool) (armed : Nat) (cv : Value) : Array Value := #[.slice (some ⟨sb, 0, none⟩) n cap, .map (some mb), .bool dead, .int .i64 (armed : Int), cv]
/-- cv is a slice of the numbers ch, whose block is of G -/
def CV (w : World) (G : Nat → Prop) (cv : Value) (ch : List Int) : Prop :=
  ∃ q cap, cv = .slice q ch.length cap ∧ ch.length ≤ cap ∧ (ch ≠ [] → ∃ b o, q = some ⟨b, o, none⟩ ∧ G b ∧ b < w.heap.size ∧ ∀ j, j < ch.length → w.cell? ⟨b, o + j, none⟩ = some (.int .i64 (ch.getD j 0)))
theorem CV.of_heap {w w' : World} {G : Nat → Prop} {cv : Value} {ch : List Int} (h : CV w G cv ch) (hs : w.heap.size ≤ w'.heap.size) (e : ∀ k, k < w.heap.size → G k → w'.heap[k]? = w.heap[k]?) : CV w' G cv ch := by
  obtain ⟨q, cap, h1, h2, h3⟩ := h
  refine ⟨q, cap, h1, h2, fun hne => ?_⟩
  obtain ⟨b, o, hq, hG, hlt, hc⟩ := h3 hne
  exact ⟨b, o, hq, hG, by omega, fun j hj => by rw [← hc j hj]; simp only [World.cell?, e b hlt hG]⟩
theorem CV.mono {w : World} {G G' : Nat → Prop} {cv : Value} {ch : List Int} (h : CV w G cv ch) (e : ∀ k, G k → G' k) : CV w G' cv ch := by
  obtain ⟨q, cap, h1, h2, h3⟩ := h
  refine ⟨q, cap, h1, h2, fun hne => ?_⟩
  obtain ⟨b, o, hq, hG, r⟩ := h3 hne
  exact ⟨b, o, hq, e b hG, r⟩
theorem CV.nil (w : World) (G : Nat → Prop) : CV w G (.slice none 0 0) [] := ⟨none, 0, rfl, Nat.le_refl _, fun h => absurd rfl h⟩
structure D (w : World) (p sb cap mb : Nat) (cv : Value) (S : St) : Prop where
  blk : w.heap[p]? = some (.cells (dcells sb S.safe.length cap mb S.dead S.armed cv) 80 (0, 0))
  row : RowB w sb cap S.safe
  map : MapA w mb S.count S.wr
  ok : S.ok
  ne : p ≠ sb
theorem D.nm {w : World} {p sb cap mb : Nat} {cv : Value} {S : St} (h : D w p sb cap mb cv S) : p ≠ mb ∧ sb ≠ mb := by
  obtain ⟨es, ck, hm⟩ := h.map.is_map
  obtain ⟨cur, fr, hr, _⟩ := h.row
  have hb := h.blk
  constructor
  · intro e; subst e; rw [hm] at hb; cases hb
  · intro e; subst e; rw [hm] at hr; cases hr
theorem D.cells {w : World} {p sb cap mb : Nat} {cv : Value} {S : St} (h : D w p sb cap mb cv S) :
    w.cell? ⟨p, 0, none⟩ = some (.slice (some ⟨sb, 0, none⟩) S.safe.length cap) ∧ w.cell? ⟨p, 1, none⟩ = some (.map (some mb)) ∧ w.cell? ⟨p, 2, none⟩ = some (.bool S.dead) ∧
    w.cell? ⟨p, 3, none⟩ = some (.int .i64 (S.armed : Int)) ∧ w.cell? ⟨p, 4, none⟩ = some cv ∧ ∀ o, w.frozen? ⟨p, o, none⟩ = false := by
  have hb := h.blk
  refine ⟨?_, ?_, ?_, ?_, ?_, fun o => block_free hb⟩ <;> (rw [cell_of_row w p _ _ _ _ hb]; rfl)
/-- in the blocks F a disk S lies at p -/
def IsD (w : World) (F : Nat → Prop) (p : Nat) (S : St) : Prop :=
  ∃ sb cap mb cv, D w p sb cap mb cv S ∧ CV w (fun b => F b ∧ b ≠ p ∧ b ≠ sb ∧ b ≠ mb) cv S.ch ∧ F p ∧ F sb ∧ F mb
theorem IsD.ok {w : World} {F : Nat → Prop} {p : Nat} {S : St} (h : IsD w F p S) : S.ok := by obtain ⟨_, _, _, _, h, _⟩ := h; exact h.ok
theorem IsD.lt {w : World} {F : Nat → Prop} {p : Nat} {S : St} (h : IsD w F p S) : p < w.heap.size ∧ F p := by obtain ⟨_, _, _, _, h, _, hp, _⟩ := h; exact ⟨block_lt h.blk, hp⟩
theorem IsD.of_heap {w w' : World} {F : Nat → Prop} {p : Nat} {S : St} (h : IsD w F p S) (hs : w.heap.size ≤ w'.heap.size) (e : ∀ k, k < w.heap.size → F k → w'.heap[k]? = w.heap[k]?) : IsD w' F p S := by
  obtain ⟨sb, cap, mb, cv, hd, hc, h1, h2, h3⟩ := h
  exact ⟨sb, cap, mb, cv, ⟨(e p (block_lt hd.blk) h1).trans hd.blk, hd.row.of_heap (e sb hd.row.lt h2), hd.map.of_heap (e mb hd.map.lt h3), hd.ok, hd.ne⟩, hc.of_heap hs (fun k hk hG => e k hk hG.1), h1, h2, h3⟩
theorem IsD.below {w w' : World} {F : Nat → Prop} {p : Nat} {S : St} (h : IsD w F p S) (hb : Below w.heap.size w w') : IsD w' F p S := h.of_heap hb.size fun k hk _ => hb.block k hk
theorem IsD.mono {w : World} {F F' : Nat → Prop} {p : Nat} {S : St} (h : IsD w F p S) (e : ∀ k, F k → F' k) : IsD w F' p S := by
  obtain ⟨sb, cap, mb, cv, hd, hc, h1, h2, h3⟩ := h
  exact ⟨sb, cap, mb, cv, hd, hc.mono (fun k hk => ⟨e k hk.1, hk.2⟩), e p h1, e sb h2, e mb h3⟩

theorem St.count_lt {S : St} (h : S.ok) : S.safe.length ≤ 524288 := by have := h.len; have := h.hi; omega
set_option maxHeartbeats 400000 in
theorem count_any (F : Nat → Prop) (p : Nat) (S : St) (w : World) (h : IsD w F p S) :
    Calls Tryz.prog 42 #[.pointer (some ⟨p, 0, none⟩)] w fun e w' => e = .returned (.int .i64 (S.count : Int)) ∧ w = w' := by
  obtain ⟨sb, cap, mb, cv, hd, hc, h1, h2, h3⟩ := h
  obtain ⟨c0, _⟩ := hd.cells
  have hl := hd.ok.len
  have e : (S.safe.length : Int).tdiv 128 = (S.count : Int) := by rw [Int.tdiv_eq_ediv_of_nonneg (by omega)]; omega
  have ew : wrap64 (S.count : Int) = (S.count : Int) := by have := hd.ok.hi; unfold wrap64; omega
  clear hl
  clear hd hc
  go_enter Tryz.func42, Tryz.ntmps42
  go_wp2
  go_ret
  exact ⟨by simp [ew], rfl⟩
set_option maxHeartbeats 400000 in
theorem dead_any (F : Nat → Prop) (p : Nat) (S : St) (w : World) (h : IsD w F p S) :
    Calls Tryz.prog 16 #[.pointer (some ⟨p, 0, none⟩)] w fun e w' => e = .returned (.bool S.dead) ∧ w = w' := by
  obtain ⟨sb, cap, mb, cv, hd, hc, h1, h2, h3⟩ := h
  obtain ⟨_, _, c2, _⟩ := hd.cells
  clear hd hc
  go_enter Tryz.func16, Tryz.ntmps16
  go_wp2
  go_ret
  exact ⟨rfl, rfl⟩
theorem set3 (sb n cap mb : Nat) (dead : Bool) (armed : Nat) (cv : Value) (a : Nat) : (dcells sb n cap mb dead armed cv).setIfInBounds 3 (.int .i64 (a : Int)) = dcells sb n cap mb dead a cv := rfl
theorem set4 (sb n cap mb : Nat) (dead : Bool) (armed : Nat) (cv v : Value) : (dcells sb n cap mb dead armed cv).setIfInBounds 4 v = dcells sb n cap mb dead armed v := rfl
theorem set2 (sb n cap mb : Nat) (dead : Bool) (armed : Nat) (cv : Value) (v : Bool) : (dcells sb n cap mb dead armed cv).setIfInBounds 2 (.bool v) = dcells sb n cap mb v armed cv := rfl
theorem set0 (sb n cap mb : Nat) (dead : Bool) (armed : Nat) (cv : Value) (sb' n' cap' : Nat) : (dcells sb n cap mb dead armed cv).setIfInBounds 0 (.slice (some ⟨sb', 0, none⟩) n' cap') = dcells sb' n' cap' mb dead armed cv := rfl
theorem MapA.setCell {w : World} {b c : Nat} {M : Nat → Option Bts} (h : MapA w b c M) {a : Addr} (ha : b ≠ a.block) (u : Value) : MapA (w.setCell a u) b c M := h.of_heap (block_setCell_other ha)
theorem RowB.setCell {w : World} {g cap : Nat} {l : Bts} (h : RowB w g cap l) {a : Addr} (ha : g ≠ a.block) (u : Value) : RowB (w.setCell a u) g cap l := h.of_heap (block_setCell_other ha)
theorem setCell_size (w : World) (a : Addr) (v : Value) : (w.setCell a v).heap.size = w.heap.size := by simp [World.setCell]
theorem D.set2 {w : World} {p sb cap mb : Nat} {cv : Value} {S : St} (h : D w p sb cap mb cv S) (v : Bool) : D (w.setCell ⟨p, 2, none⟩ (.bool v)) p sb cap mb cv { S with dead := v } :=
  ⟨block_setCell (o := 2) (u := .bool v) h.blk, h.row.setCell (fun e => h.ne e.symm) _, h.map.setCell (fun e => h.nm.1 e.symm) _, ⟨h.ok.len, h.ok.lo, h.ok.hi, h.ok.wr, h.ok.armed, h.ok.ch, h.ok.chl⟩, h.ne⟩
theorem D.set3 {w : World} {p sb cap mb : Nat} {cv : Value} {S : St} (h : D w p sb cap mb cv S) (a : Nat) (ha : a < 9223372036854775808) : D (w.setCell ⟨p, 3, none⟩ (.int .i64 (a : Int))) p sb cap mb cv { S with armed := a } :=
  ⟨block_setCell (o := 3) (u := .int .i64 (a : Int)) h.blk, h.row.setCell (fun e => h.ne e.symm) _, h.map.setCell (fun e => h.nm.1 e.symm) _, ⟨h.ok.len, h.ok.lo, h.ok.hi, h.ok.wr, ha, h.ok.ch, h.ok.chl⟩, h.ne⟩
theorem D.set4 {w : World} {p sb cap mb : Nat} {cv : Value} {S : St} (h : D w p sb cap mb cv S) (v : Value) (l : List Int) (hl : ∀ x ∈ l, -9223372036854775808 ≤ x ∧ x < 9223372036854775808) (hl2 : l.length ≤ 4096) : D (w.setCell ⟨p, 4, none⟩ v) p sb cap mb v { S with ch := l } :=
  ⟨block_setCell (o := 4) (u := v) h.blk, h.row.setCell (fun e => h.ne e.symm) _, h.map.setCell (fun e => h.nm.1 e.symm) _, ⟨h.ok.len, h.ok.lo, h.ok.hi, h.ok.wr, h.ok.armed, hl, hl2⟩, h.ne⟩
theorem D.set0 {w : World} {p sb cap mb : Nat} {cv : Value} {S : St} (h : D w p sb cap mb cv S) {sb' cap' : Nat} {l : Bts} (hr : RowB w sb' cap' l) (hl : l.length = S.safe.length) (hn : p ≠ sb') :
    D (w.setCell ⟨p, 0, none⟩ (.slice (some ⟨sb', 0, none⟩) l.length cap')) p sb' cap' mb cv { S with safe := l } := by
  have hc : ({ S with safe := l } : St).count = S.count := St.count_of hl
  refine ⟨block_setCell (o := 0) (u := .slice (some ⟨sb', 0, none⟩) l.length cap') h.blk, hr.setCell (fun e => hn e.symm) _, ?_, ⟨?_, ?_, ?_, ?_, h.ok.armed, h.ok.ch, h.ok.chl⟩, hn⟩
  · rw [hc]; exact h.map.setCell (fun e => h.nm.1 e.symm) _
  · rw [hc]; exact hl.trans h.ok.len
  · rw [hc]; exact h.ok.lo
  · rw [hc]; exact h.ok.hi
  · rw [hc]; exact h.ok.wr
theorem D.of_heap {w w' : World} {p sb cap mb : Nat} {cv : Value} {S : St} (h : D w p sb cap mb cv S) (e1 : w'.heap[p]? = w.heap[p]?) (e2 : w'.heap[sb]? = w.heap[sb]?) (e3 : w'.heap[mb]? = w.heap[mb]?) : D w' p sb cap mb cv S :=
  ⟨e1.trans h.blk, h.row.of_heap e2, h.map.of_heap e3, h.ok, h.ne⟩
theorem D.below {w w' : World} {p sb cap mb : Nat} {cv : Value} {S : St} (h : D w p sb cap mb cv S) (hb : Below w.heap.size w w') : D w' p sb cap mb cv S :=
  h.of_heap (hb.block p (block_lt h.blk)) (hb.block sb h.row.lt) (hb.block mb h.map.lt)
theorem CV.setCell {w : World} {G : Nat → Prop} {cv : Value} {ch : List Int} (h : CV w G cv ch) {a : Addr} (ha : ∀ k, G k → k ≠ a.block) (u : Value) : CV (w.setCell a u) G cv ch :=
  h.of_heap (by rw [setCell_size]; exact Nat.le_refl _) fun k _ hk => block_setCell_other (ha k hk)
theorem CV.below {w w' : World} {G : Nat → Prop} {cv : Value} {ch : List Int} (h : CV w G cv ch) (hb : Below w.heap.size w w') : CV w' G cv ch := h.of_heap hb.size fun k hk _ => hb.block k hk
set_option maxHeartbeats 400000 in
theorem disarm_own (F : Nat → Prop) (p : Nat) (S : St) (w : World) (h : IsD w F p S) :
    Calls Tryz.prog 40 #[.pointer (some ⟨p, 0, none⟩)] w fun e w' => e = .returned (.tuple #[]) ∧ IsD w' F p { S with armed := 0, ch := [] } ∧ Ch F w w' ∧ w'.heap.size = w.heap.size ∧ ∀ k, k ≠ p → w'.heap[k]? = w.heap[k]? := by
  obtain ⟨sb, cap, mb, cv, hd, hc, h1, h2, h3⟩ := h
  obtain ⟨c0, c1, c2, c3, c4, hf⟩ := hd.cells
  have f3 := hf 3
  have k1 : D (w.setCell ⟨p, 3, none⟩ (.int .i64 0)) p sb cap mb cv { S with armed := 0 } := hd.set3 0 (by omega)
  obtain ⟨_, _, _, _, c4', hf'⟩ := k1.cells
  have f4' := hf' 4
  have k2 := k1.set4 (.slice none 0 0) [] (fun x hx => nomatch hx) (Nat.zero_le _)
  have HK := Lib.hid k2
  clear hd hc hf hf' k1 k2
  go_enter Tryz.func40, Tryz.ntmps40
  go_wp2
  go_end0
  exact ⟨rfl, ⟨sb, cap, mb, .slice none 0 0, HK.out, CV.nil _ _, h1, h2, h3⟩, ((Ch.refl F w).setCell h1 _ _).setCell h1 _ _, by simp, fun k hk => (block_setCell_other hk).trans (block_setCell_other hk)⟩
theorem disarm_any (F : Nat → Prop) (p : Nat) (S : St) (w : World) (h : IsD w F p S) :
    Calls Tryz.prog 40 #[.pointer (some ⟨p, 0, none⟩)] w fun e w' => e = .returned (.tuple #[]) ∧ IsD w' F p { S with armed := 0, ch := [] } ∧ Ch F w w' ∧ w'.heap.size = w.heap.size :=
  (disarm_own F p S w h).mono fun _ _ q => ⟨q.1, q.2.1, q.2.2.1, q.2.2.2.1⟩
set_option maxHeartbeats 400000 in
theorem revive_any (F : Nat → Prop) (p : Nat) (S : St) (w : World) (h : IsD w F p S) :
    Calls Tryz.prog 19 #[.pointer (some ⟨p, 0, none⟩)] w fun e w' => e = .returned (.tuple #[]) ∧ IsD w' F p S.revive ∧ Ch F w w' ∧ w'.heap.size = w.heap.size := by
  obtain ⟨sb, cap, mb, cv, hd, hc, h1, h2, h3⟩ := h
  obtain ⟨c0, c1, c2, c3, c4, hf⟩ := hd.cells
  have f2 := hf 2
  have k : IsD (w.setCell ⟨p, 2, none⟩ (.bool false)) F p { S with dead := false } := ⟨sb, cap, mb, cv, hd.set2 false, hc.setCell (fun k hk => hk.2.1) _, h1, h2, h3⟩
  have kd := disarm_any F p _ _ k
  have HK := Lib.hid k
  clear hd hc hf k
  go_enter Tryz.func19, Tryz.ntmps19
  go_wp2_with (go_at_call 40; refine kd.mono ?_; rintro e w' ⟨rfl, g1, g2, g3⟩)
  go_end0
  exact ⟨rfl, g1, ((Ch.refl F w).setCell h1 _ _).trans (Gr.refl _ _ _) g2, by rw [g3]; simp⟩
set_option maxHeartbeats 400000 in
theorem place_any (F : Nat → Prop) (p : Nat) (S : St) (i : Int) (w : World) (h : IsD w F p S) (hi : -9223372036854775808 ≤ i ∧ i < 9223372036854775808) :
    Calls Tryz.prog 125 #[.pointer (some ⟨p, 0, none⟩), .int .i64 i] w fun e w' => e = .returned (.int .i64 (if i < 0 ∨ (S.count : Int) ≤ i then 71 else 0)) ∧ w = w' := by
  have kc := count_any F p S w h
  by_cases a : i < 0
  · rw [if_pos (.inl a)]
    go_enter Tryz.func125, Tryz.ntmps125
    go_wp2
    go_ret
    exact ⟨rfl, rfl⟩
  · by_cases b : (S.count : Int) ≤ i
    · rw [if_pos (.inr b)]
      go_enter Tryz.func125, Tryz.ntmps125
      go_wp2_with (go_at_call 42; refine kc.mono ?_; rintro e w' ⟨rfl, rfl⟩)
      go_ret
      exact ⟨rfl, rfl⟩
    · rw [if_neg (by omega)]
      go_enter Tryz.func125, Tryz.ntmps125
      go_wp2_with (go_at_call 42; refine kc.mono ?_; rintro e w' ⟨rfl, rfl⟩)
      go_ret
      exact ⟨rfl, rfl⟩
theorem ret_int {k : IntKind} {a b : Int} (h : a = b) : Ending.returned (.int k a) = .returned (.int k b) := by rw [h]
set_option maxHeartbeats 400000 in
theorem full_any (i : Int) (w : World) : Calls Tryz.prog 48 #[.int .i64 i] w fun e w' => e = .returned (.int .i64 128) ∧ w = w' := by
  go_enter Tryz.func48, Tryz.ntmps48
  go_wp2
  go_ret
  exact ⟨rfl, rfl⟩
set_option maxHeartbeats 400000 in
theorem chosen_any (v : Value) (q : Option Addr) (n cap : Nat) (hv : v = .slice q n cap) (w : World) :
    Calls Tryz.prog 98 #[v] w fun e w' => e = .returned (.func (.func 123) #[] #[.pointer (some ⟨w.heap.size, 0, none⟩)]) ∧ w' = w.alloc (.cells #[v] 25) := by
  subst hv
  go_enter Tryz.func98, Tryz.ntmps98
  go_wp2
  go_ret
  exact ⟨rfl, rfl⟩
set_option maxHeartbeats 400000 in
theorem chosen1_any (G : Nat → Prop) (v : Value) (ch : List Int) (bx i : Nat) (w : World) (hb : w.cell? ⟨bx, 0, none⟩ = some v) (h : CV w G v ch) (hi : i < 4096) :
    Calls Tryz.prog 123 #[.int .i64 (i : Int), .pointer (some ⟨bx, 0, none⟩)] w fun e w' => e = .returned (.int .i64 (part ch i : Int)) ∧ w = w' := by
  obtain ⟨q, cap, rfl, hle, hc⟩ := h

  by_cases hlt : i < ch.length
  · obtain ⟨b, o, rfl, _, _, hcell⟩ := hc (fun e => by subst e; simp at hlt)
    have c0 := hcell i hlt
    clear hc hcell
    have e : (part ch i : Int) = min (max (ch.getD i 0) 0) 128 := by unfold part; omega
    rw [e]
    generalize ch.getD i 0 = x at *
    generalize ch.length = n at *
    go_enter Tryz.func123, Tryz.ntmps123
    go_wp2
    all_goals (go_ret; exact ⟨ret_int (by omega), rfl⟩)
  · have e : part ch i = 0 := by unfold part; rw [List.getD_eq_getElem?_getD, List.getElem?_eq_none (by omega)]; decide
    rw [e]
    clear hc
    generalize ch.length = n at *
    go_enter Tryz.func123, Tryz.ntmps123
    go_wp2
    go_ret
    exact ⟨rfl, rfl⟩
end Go.Proofs.YtjippoejaieneaaGreat

/- Rows of bytes and of numbers cloned, a string cloned; a map cloned. Conditions: the rows are few enough for a machine. -/
namespace Go.Proofs.YtjippoejaieneaaGreat
open Go.RowKit Go.Maps
set_option maxRecDepth 20000
set_option linter.unusedVariables false

theorem below_drew {B : Nat} {a w : World} (h : Below B a w) : Below B a w.drew := ⟨h.os, h.tape, h.output, h.size, h.block⟩
theorem Tryz.info5 : (Tryz.prog.info? 5).map (fun i => (i.zero, i.size, i.bytes)) = some (some (.int .u8 0), 1, 1) := by kernel_rfl
theorem Tryz.info3 : (Tryz.prog.info? 3).map (fun i => (i.zero, i.size, i.bytes)) = some (some (.int .i64 0), 1, 8) := by kernel_rfl
theorem wpList_append_run {ops : Array Oper} {rest : List Oper} {o : Oper} {a : Act} {w : World} {Q : Exit → Act → World → Prop} (hgd : o.guard = none) (s x : Operand) (t : TypeId)
    (ho : o.op = .call { callee := .builtin .append, args := #[s, x], argTypes := #[t, t] }) (vs vx v' : Value) (w' : World) (hs : a.eval s = vs) (hx : a.eval x = vx)
    (hr : (Builtin.append_ #[t, t] o.type #[vs, vx]).run Tryz.prog w = .ok v' w') (hk : wpList Tryz.prog ops Q rest (a.put o.dst v') w') : wpList Tryz.prog ops Q (o :: rest) a w := by
  refine wpList_plain hgd fun K hK => ?_
  unfold Oper.wp execOp
  simp only [ho, resolve, invoke, builtin, Sem.run_bind, Sem.run_pure, Result.andThen_ok, List.map_toArray, List.map_cons, List.map_nil, hs, hx, hr]
  exact hK _ _ hk
/-- append of a row to an empty one -/
theorem append0 {w : World} (t e : TypeId) (z : Value) (by' : Nat) (ht : Tryz.prog.underlying t = some (.slice e)) (hinf : (Tryz.prog.info? e).map (fun i => (i.zero, i.size, i.bytes)) = some (some z, 1, by')) (h1z : z.cells = #[z])
    (ty : TypeId) (g : Nat) (ad : Addr) (m c : Nat) (news : List Value) (hm : news.length = m) (h0 : 0 < m) (hnews : ∀ j u, news[j]? = some u → w.cell? (ad.add j) = some u) (hsz : m * by' ≤ 140737488355328) (hb : 0 < by') :
    ∃ cap cur g' w', (Builtin.append_ #[t, t] ty #[.slice (some ⟨g, 0, none⟩) 0 0, .slice (some ad) m c]).run Tryz.prog w = .ok (.slice (some ⟨g', 0, none⟩) m cap) w' ∧ w'.heap[g']? = some (.cells cur e (0, 0)) ∧ w.heap.size ≤ g' ∧ Below w.heap.size w w' ∧ m ≤ cap ∧ cap ≤ maxLen ∧ cur.size = cap ∧ cur.toList.take m = news := by
  obtain ⟨i0, hi, hz0, hz1, hz2⟩ := info_parts hinf
  have hm2 : m ≤ 140737488355328 := Nat.le_trans (Nat.le_mul_of_pos_right m hb) hsz
  have hr := run_append_grow (P := Tryz.prog) w t ty e i0 z ht hi hz0 ⟨g, 0, none⟩ 0 0 [] (by simp) (by simp) ad m c news (by rw [hz1, Nat.mul_one, hm]) hnews (by omega) (by omega) (by rw [hz2, Nat.zero_add]; exact growslice_fits (by omega) (by omega))
  have hge := grownCap_ge w (0 + m) 0 e
  have hcm2 : grownCap w (0 + m) 0 e ≤ maxLen := grownCap_le_maxLen w (0 + m) 0 e (by unfold maxLen; omega)
  rw [Nat.zero_add] at hr hge hcm2
  refine ⟨_, _, _, _, hr, heap_alloc_new w.drew _, Nat.le_refl _, Below.alloc (below_drew (Below.refl _ w)) (Nat.le_refl _) _, hge, hcm2, ?_, ?_⟩
  · simp [size_zeroCells, hm, h1z]; omega
  · simp [← hm]
set_option maxHeartbeats 400000 in
theorem cloneB_any (g cap : Nat) (l : Bts) (w : World) (h : RowB w g cap l) (h0 : 0 < l.length) (hl : l.length ≤ 524288) :
    Calls Tryz.prog 79 #[.slice (some ⟨g, 0, none⟩) l.length cap] w fun e w' => ∃ g' cap', e = .returned (.slice (some ⟨g', 0, none⟩) l.length cap') ∧ w.heap.size ≤ g' ∧ RowB w' g' cap' l ∧ Below w.heap.size w w' := by
  have hc := take_of_row (h.of_heap (w' := w.alloc (.cells #[] 5)) (Below.heap_alloc w _ g h.lt))
  obtain ⟨cap', cur, g2, w2, hr, hg, hgl, hbw, h1, h2, h3, h4⟩ := append0 (w := w.alloc (.cells #[] 5)) 77 5 (.int .u8 0) 1 Tryz.underlying77 Tryz.info5 rfl 77 w.heap.size ⟨g, 0, none⟩ l.length cap (l.map cellB) (by simp) h0 hc (by omega) (by omega)
  have HB : Hid (RowB w2 g2 cap' l) := ⟨cur, (0, 0), hg, .inl rfl, h1, h2, h3, h4⟩
  have HW : Hid (Below w.heap.size w w2 ∧ w.heap.size ≤ g2) := ⟨((Below.refl _ w).alloc (Nat.le_refl _) (.cells #[] 5)).trans (hbw.mono (by simp)), by simp at hgl; omega⟩
  clear hc h1 h2 h3 h4 h hl hg hgl hbw
  have hqe := Lib.run_eql_slice_nil (P := Tryz.prog) w 77 5 (some ⟨g, 0, none⟩) l.length cap 0 0 Tryz.underlying77
  go_enter Tryz.func79, Tryz.ntmps79
  go_wp2_with (at_builtin; refine wpList_append_run rfl (.tmp 5) (.tmp 6) 77 rfl _ _ _ _ rfl rfl hr ?_)
  go_ret
  exact ⟨_, cap', rfl, HW.out.2, HB.out, HW.out.1⟩
theorem append_none (w : World) (t e : TypeId) (z : Value) (by' : Nat) (ht : Tryz.prog.underlying t = some (.slice e)) (hinf : (Tryz.prog.info? e).map (fun i => (i.zero, i.size, i.bytes)) = some (some z, 1, by')) (ty : TypeId) (g : Nat) (q : Option Addr) (c : Nat) :
    (Builtin.append_ #[t, t] ty #[.slice (some ⟨g, 0, none⟩) 0 0, .slice q 0 c]).run Tryz.prog w = .ok (.slice (some ⟨g, 0, none⟩) 0 0) w := by
  obtain ⟨i0, hi, hz0, hz1, hz2⟩ := info_parts hinf
  cases q with
  | none => simp [Builtin.append_, run_underlying ht, Go.sizeOf, typeInfo, hi, hz1, Builtin.lenOf, Builtin.firstCells, storeCells, Result.andThen]
  | some ad =>
    have hf := run_firstCells_some (P := Tryz.prog) (w := w) 1 0 ad 0 c [] (by simp) (by simp)
    simp [Builtin.append_, run_underlying ht, Go.sizeOf, typeInfo, hi, hz1, Builtin.lenOf, hf, storeCells, Result.andThen]
def cellI (x : Int) : Value := .int .i64 x
set_option maxHeartbeats 400000 in
theorem cloneI_any (G : Nat → Prop) (v : Value) (l : List Int) (w : World) (h : CV w G v l) (hl : l.length ≤ 17592186044416) :
    Calls Tryz.prog 41 #[v] w fun e w' => ∃ v', e = .returned v' ∧ CV w' (fun b => w.heap.size ≤ b) v' l ∧ Below w.heap.size w w' := by
  obtain ⟨q, cap, rfl, hle, hc⟩ := h
  cases hq : l with
  | nil =>
    subst hq
    clear hc hl
    rw [List.length_nil] at *
    cases q with
    | none =>
      have hqe := Lib.run_eql_slice_nil (P := Tryz.prog) w 25 3 none 0 cap 0 0 Tryz.underlying25
      go_enter Tryz.func41, Tryz.ntmps41
      go_wp2
      go_ret
      exact ⟨_, rfl, CV.nil _ _, Below.refl _ _⟩
    | some ad =>
      have hr := append_none (w.alloc (.cells #[] 3)) 25 3 (.int .i64 0) 8 Tryz.underlying25 Tryz.info3 25 w.heap.size (some ad) cap
      have hqe := Lib.run_eql_slice_nil (P := Tryz.prog) w 25 3 (some ad) 0 cap 0 0 Tryz.underlying25
      go_enter Tryz.func41, Tryz.ntmps41
      go_wp2
      go_ret
      exact ⟨_, rfl, ⟨_, 0, rfl, Nat.le_refl _, fun h => absurd rfl h⟩, (Below.refl _ w).alloc (Nat.le_refl _) _⟩
  | cons x r =>
    rw [← hq]
    have hne : l ≠ [] := by rw [hq]; simp
    have h0 : 0 < l.length := by rw [hq]; simp
    obtain ⟨b, o, rfl, _, hlt, hcell⟩ := hc hne
    have hc2 : ∀ j u, (l.map cellI)[j]? = some u → (w.alloc (.cells #[] 3)).cell? ((⟨b, o, none⟩ : Addr).add j) = some u := by
      intro j u hu
      rw [List.getElem?_map] at hu
      obtain ⟨y, hy, rfl⟩ := Option.map_eq_some_iff.1 hu
      have hj : j < l.length := (List.getElem?_eq_some_iff.1 hy).1
      have := hcell j hj
      rw [List.getD_eq_getElem?_getD, hy] at this
      rw [addr_at]
      have e : (w.alloc (.cells #[] 3)).heap[b]? = w.heap[b]? := Below.heap_alloc w _ b hlt
      simp only [World.cell?, e] at this ⊢
      exact this
    obtain ⟨cap', cur, g2, w2, hr, hg, hgl, hbw, h1, h2, h3, h4⟩ := append0 (w := w.alloc (.cells #[] 3)) 25 3 (.int .i64 0) 8 Tryz.underlying25 Tryz.info3 rfl 25 w.heap.size ⟨b, o, none⟩ l.length cap (l.map cellI) (by simp) h0 hc2 (by omega) (by omega)
    have HB : Hid (CV w2 (fun b => w.heap.size ≤ b) (.slice (some ⟨g2, 0, none⟩) l.length cap') l) := by
      refine ⟨_, cap', rfl, h1, fun _ => ⟨_, 0, rfl, by simp at hgl; omega, block_lt hg, fun j hj => ?_⟩⟩
      rw [Nat.zero_add, cell_of_row _ _ j cur 3 _ hg, ← Array.getElem?_toList]
      have e : (cur.toList.take l.length)[j]? = (l.map cellI)[j]? := by rw [h4]
      rw [List.getElem?_take, if_pos hj, List.getElem?_map, List.getElem?_eq_getElem hj] at e
      rw [e]
      simp [cellI, List.getD, List.getElem?_eq_getElem hj]
    have HW : Hid (Below w.heap.size w w2) := ((Below.refl _ w).alloc (Nat.le_refl _) (.cells #[] 3)).trans (hbw.mono (by simp))
    clear hc2 h1 h2 h3 h4 hl hc hcell hq hle hg hgl hbw
    have hqe := Lib.run_eql_slice_nil (P := Tryz.prog) w 25 3 (some ⟨b, o, none⟩) l.length cap 0 0 Tryz.underlying25
    go_enter Tryz.func41, Tryz.ntmps41
    go_wp2_with (at_builtin; refine wpList_append_run rfl (.tmp 5) (.tmp 6) 25 rfl _ _ _ _ rfl rfl hr ?_)
    go_ret
    exact ⟨_, rfl, HB.out, HW.out⟩
theorem cloneS_any (s : ByteArray) (w : World) (hs : s.size ≤ 281474976710656) : Calls Tryz.prog 153 #[.string s] w fun e w' => e = .returned (.string s) ∧ Below w.heap.size w w' := by
  have k := Cd.sclone_any s w hs
  go_enter Tryz.func153, Tryz.ntmps153
  go_wp2_with (go_at_call 160; refine k.mono ?_; rintro e w' ⟨rfl, h⟩)
  go_ret
  exact ⟨rfl, h⟩
end Go.Proofs.YtjippoejaieneaaGreat

/- All bytes of a disk, of each unsafe sector the first written bytes: what the call returns, on every order of the map; nothing that was there turns. No conditions. -/
namespace Go.Proofs.YtjippoejaieneaaGreat
open Go.RowKit Go.Maps
set_option maxRecDepth 20000
set_option linter.unusedVariables false

theorem i64_nat (x : Int) (h : (Lit.int IntKind.i64 x).wf = true) (c : Nat) (h2 : ∃ i, i < c ∧ Lit.int IntKind.i64 x = kl i) : ∃ i : Nat, i < c ∧ x = (i : Int) := by
  obtain ⟨i, hi, e⟩ := h2
  unfold kl at e
  injection e with _ e
  exact ⟨i, hi, e⟩
theorem ext_nat (s : ByteArray) (n : Nat) (h : n ≤ s.size) : (s.extract 0 n).data.toList = s.data.toList.take n := by
  rw [ByteArray.data_extract]; simp
theorem one_some {S : St} {f : Nat → Nat} {i : Nat} {s : Bts} (h : S.wr i = some s) : S.one f i = s.take (f i) ++ (sec S.safe i).drop (f i) := by unfold St.one; rw [h]
theorem one_none {S : St} {f : Nat → Nat} {i : Nat} (h : S.wr i = none) : S.one f i = sec S.safe i := by unfold St.one; rw [h]
/-- what the row holds while some entries are still to come -/
def Mid (S : St) (f : Nat → Nat) (left : Lit → Bool) (cur : Bts) : Prop :=
  cur.length = 128 * S.count ∧ ∀ i, i < S.count → sec cur i = if (S.wr i).isSome = true ∧ left (kl i) = false then S.one f i else sec S.safe i
theorem Mid.step {S : St} (ho : S.ok) {f : Nat → Nat} (hf : ∀ i, f i ≤ 128) {left : Lit → Bool} {cur : Bts} (h : Mid S f left cur) {i : Nat} {s : Bts} (hi : i < S.count) (hs : S.wr i = some s) (hl : left (kl i) = true) :
    Mid S f (fun z => left z && !z.sameKey (kl i)) (lay cur (128 * i) (s.take (f i))) := by
  obtain ⟨h1, h2⟩ := h
  have hsl := (ho.wr i s hs).2
  have hf' := hf i
  have ht : (s.take (f i)).length = f i := by simp; omega
  refine ⟨by rw [lay_len (by omega)]; exact h1, fun j hj => ?_⟩
  by_cases e : j = i
  · subst e
    rw [sec_lay_same (by omega) (by omega), if_pos ⟨by rw [hs]; rfl, by simp [WideAt.sameKey_self (key_lit (i := j) (by have := ho.hi; omega))]⟩, one_some hs, h2 j hj, if_neg (by rw [hl]; simp), ht]
  · rw [sec_lay_other (by omega) (by omega) (fun q => e q.symm), h2 j hj]
    have : (kl j).sameKey (kl i) = false := sameKey_ne (fun q => e (kl_inj q))
    simp [this]
theorem Mid.done {S : St} (ho : S.ok) {f : Nat → Nat} (hf : ∀ i, f i ≤ 128) {left : Lit → Bool} {cur : Bts} (h : Mid S f left cur) (hl : ∀ k, left k = false) : cur = S.left f := by
  obtain ⟨h1, h2⟩ := h
  refine ext_sec h1 (S.left_len ho f hf) fun i hi => ?_
  rw [h2 i hi]
  unfold St.left
  rw [sec_secs (fun i hi => S.one_len ho f hf i hi) i hi]
  cases hw : S.wr i with
  | none => rw [if_neg (by simp), one_none hw]
  | some s => rw [if_pos ⟨by simp, hl _⟩]
theorem Mid.start {S : St} (ho : S.ok) (f : Nat → Nat) {left : Lit → Bool} (hl : ∀ i, i < S.count → left (kl i) = (S.wr i).isSome) : Mid S f left S.safe := by
  refine ⟨ho.len, fun i hi => ?_⟩
  rw [if_neg]
  rw [hl i hi]
  cases (S.wr i).isSome <;> simp
theorem below_setRow {B : Nat} {a w : World} (h : Below B a w) {g : Nat} (hg : B ≤ g) (cs : Array Value) : Below B a (w.setRow g cs) :=
  ⟨h.os, h.tape, h.output, by rw [setRow_size]; exact h.size, fun k hk => by rw [setRow_other _ _ _ _ (by omega)]; exact h.block k hk⟩
theorem ranges_drew {w : World} {k : TypeId} {R : Value → Option (DataW Unit × List MemPlace)} {b r n : Nat} {Dm : DataW Unit} {left : Lit → Bool} {cnt : Nat} (h : w.ranges Tryz.prog k R b r n Dm left cnt) : w.drew.ranges Tryz.prog k R b r n Dm left cnt := h
theorem grownBy_setRow (w : World) (g : Nat) (cs : Array Value) : w.grownBy (w.setRow g cs) (some g) :=
  ⟨rfl, rfl, rfl, by rw [setRow_size]; exact Nat.le_refl _, fun k hk hne => by rw [setRow_other _ _ _ _ (fun e => hne (by rw [e]))]⟩

set_option maxRecDepth 20000 in
set_option maxHeartbeats 1000000 in
theorem left_full (F : Nat → Prop) (p : Nat) (S : St) (w : World) (h : IsD w F p S) :
    Calls Tryz.prog 47 #[.pointer (some ⟨p, 0, none⟩), .func (.func 48) #[] #[]] w fun e w' => ∃ g cap', e = .returned (.slice (some ⟨g, 0, none⟩) S.safe.length cap') ∧ w.heap.size ≤ g ∧ RowB w' g cap' (S.left (full)) ∧ Below w.heap.size w w' := by
  obtain ⟨sb, cap, mb, cv, hd, hc, h1, h2, h3⟩ := h
  obtain ⟨c0, c1, c2, c3, c4, hf⟩ := hd.cells
  have hlen := hd.ok.len
  have hlo := hd.ok.lo
  have hhi := hd.ok.hi
  have kc := cloneB_any sb cap S.safe w hd.row (by omega) (by omega)
  obtain ⟨n, Dm, ho, m1, m2, m3⟩ := hd.map
  have hpl := block_lt hd.blk
  obtain ⟨B, hB⟩ : ∃ B, B = w.heap.size := ⟨_, rfl⟩
  obtain ⟨f, hfd⟩ : ∃ f, f = full := ⟨_, rfl⟩
  have hfp : ∀ i, f i ≤ 128 := by subst hfd; exact fun _ => Nat.le_refl _
  rw [← hfd]
  have HO := Lib.hid hd.ok
  have HMO := Lib.hid ho
  have HM1 := Lib.hid m1
  have HM2 := Lib.hid m2
  have HM3 := Lib.hid m3
  have HL := Lib.hid (And.intro hlen (And.intro hlo hhi))
  have HF := Lib.hid hfp
  have hbs := ho.lt

  clear ho m1 m2 m3 hd hc hf hlen hlo hhi hfp c2 c3 c4
  go_enter Tryz.func47, Tryz.ntmps47
  go_wp2_with (first
    | (go_at_call 79; refine kc.mono ?_; rintro e w1 ⟨g, cap', rfl, hg, hr, hbw⟩; (have c1' : w1.cell? ⟨p, 1, none⟩ = some (.map (some mb)) := by (rw [← c1]; simp only [World.cell?, hbw.block p hpl])); (have HMO1 := Lib.hid (World.ownsMap.kept (row := none) HMO.out ⟨hbw.os, hbw.tape, hbw.output, hbw.size, fun k hk _ => hbw.block k hk⟩ (by simp))))
    | (at_range; refine wpList_range_own _ rfl _ 78 rfl 3 9 keyed3 Tryz.underlying78 _ mb n Dm rfl HMO1.out ?_; intro w0 hrg0 hg0 hs0)
    | go_in)
  (try go_frame)
  obtain ⟨R, hR⟩ : ∃ R, R = w1.heap.size := ⟨_, rfl⟩
  rw [← hR] at hrg0 ⊢
  have hgl := hr.lt
  have hgs := hbw.size
  have hgR : g ≠ R := by omega
  have hB0 : Below B w w0 := by rw [hB]; exact hbw.trans (⟨hg0.os, hg0.tape, hg0.output, hg0.size, fun k hk => hg0.block k (by omega) (by simp)⟩)
  have hr0 : RowB w0 g cap' S.safe := hr.of_heap (hg0.block g hgl (by simp))
  have HR := Lib.hid (And.intro hR (And.intro hB (And.intro hgs hgl)))
  have hBR : B ≤ R := by omega
  have hBg : B ≤ g := by omega
  have hmbB : mb < B := by omega
  clear hr hg0 hbw hg hgl hgs hR hB kc c1' hs0 c0
  go_loopw [6, 7] (fun _ _ wr => ∃ (left : Lit → Bool) (cnt : Nat) (cur : Bts), wr.ranges Tryz.prog 3 (plainElem Tryz.prog 9) mb R n Dm left cnt ∧ RowB wr g cap' cur ∧ Mid S f left cur ∧ (∀ k, left k = true → Maps.has Dm k = true) ∧ Below B w wr)
    (fun _ _ wr => wr.rangeLeft mb R)
  case atStart => exact ⟨_, _, S.safe, hrg0, hr0, Mid.start HO.out f HM2.out, fun _ h => h, hB0⟩
  case round =>
    obtain ⟨left, cnt, cur, hrg, hrow, hmid, hlh, hbel⟩ := hrel
    clear hrg0 hr0 hB0
    go_wp2_with (first
      | (at_next; refine wpList_next_ranges_is _ rfl _ rfl 3 9 .i64 keyed3 Tryz.underlying3 Tryz.underlying9 mb R n _ _ _ rfl hrg ?_ ?_)
      | go_in)
    · intro _ hl0
      go_wp2
      go_ret
      have e := Mid.done HO.out HF.out hmid hl0
      subst e
      exact ⟨g, cap', rfl, by have := HR.out; omega, hrow, by rw [← HR.out.2.1]; exact hbel⟩
    · intro x s w2 cnt1 hwx hws hlx hat hrg1 hlt hg1 hs1 hen
      have hrow1 : RowB w2 g cap' cur := hrow.of_heap (hg1.block g hrow.lt (by simp; exact hgR))
      have hbel1 : Below B w w2 := ⟨hg1.os.trans hbel.os, hg1.tape.trans hbel.tape, hg1.output.trans hbel.output, Nat.le_trans hbel.size hg1.size, fun k hk => (hg1.block k (Nat.lt_of_lt_of_le (by have := HR.out; omega) hbel.size) (by simp; omega)).trans (hbel.block k hk)⟩
      obtain ⟨i, hi, rfl⟩ := i64_nat x hwx S.count (HM1.out _ (hlh _ hlx))
      have hsome : (S.wr i).isSome = true := by rw [← HM2.out i hi]; exact hlh _ hlx
      obtain ⟨s', hs'⟩ := Option.isSome_iff_exists.1 hsome
      have es : s = ofL s' := by
        have := HM3.out i s' hi hs' (.lit (.string []))
        have h5 : Dm.atKey (kl i) (.lit (.string [])) = .lit (.string s.data.toList) := hat _
        rw [h5] at this
        have h6 : s.data.toList = s' := by simpa using this
        exact ofL_eq h6
      subst es
      have hs128 := (HO.out.wr i s' hs').2
      have hfi := HF.out i
      have hcl := hmid.1
      have hcc := hrow1.le
      have hHL := HL.out
      have hx : (i : Int) * 128 = ((128 * i : Nat) : Int) := by omega
      have hxi : (i : Int) < 4096 := by omega
      have hsz : (ofL s').size = 128 := by rw [ofL_size]; exact hs128
      have hex : (ofL s').extract 0 (f i) = ofL (s'.take (f i)) := ofL_eq (by rw [ext_nat _ _ (by omega), ofL_list])
      obtain ⟨cs, hcp, hrow2⟩ := RowB.copy (w := w2.drew) hrow1 (128 * i) (cur.length - 128 * i) (cap' - 128 * i) (ofL (s'.take (f i))) 3 (by rw [ofL_size]; simp; omega) (by rw [ofL_size]; simp; omega)
      rw [ofL_list] at hrow2
      rw [hcl] at hcp
      have hlsafe : S.safe.length = 128 * S.count := hHL.1
      obtain ⟨o, hod⟩ : ∃ o, o = 128 * i := ⟨_, rfl⟩
      obtain ⟨N, hN⟩ : ∃ N, N = S.safe.length := ⟨_, rfl⟩
      rw [← hN] at hlsafe ⊢
      rw [← hlsafe, ← hod] at hcp
      rw [← hod] at hx hrow2
      have ho1 : o ≤ N := by omega
      have ho2 : ¬ cap' = o := by omega
      have ho3 : N ≤ cap' := by omega
      have ho4 : N ≤ 524288 := by omega
      have hw : IntKind.i64.wrap (o : Int) = (o : Int) := by rw [IntKind.wrap_i64]; omega
      have HF4 := Lib.hid ho4
      clear ho4
      have kf : ∀ W, Below w.heap.size w W → Calls Tryz.prog 48 (#[.int .i64 (i : Int)] ++ #[]) W fun e w' => e = .returned (.int .i64 (f i : Int)) ∧ w' = W := by
        subst hfd; exact fun W _ => (full_any i W).mono fun _ _ h => ⟨h.1, h.2.symm⟩
      replace kf := kf w2.drew (by rw [← HR.out.2.1]; exact below_drew hbel1)
      change Calls Tryz.prog 48 #[.int .i64 (i : Int)] _ _ at kf
      obtain ⟨m, hm⟩ : ∃ m, m = f i := ⟨_, rfl⟩
      rw [← hm] at kf hex hfi hcp hrow2
      have hmi : (m : Int) ≤ 128 := by omega
      have HM := Lib.hid hm.symm
      clear hm
      have HX := Lib.hid (And.intro hod (And.intro hN (And.intro hs128 (And.intro hlsafe (And.intro hcl (And.intro hHL (And.intro hmid (And.intro hrg1 (And.intro hrow2 (And.intro hbel1 hi))))))))))
      have HY := Lib.hid (And.intro hrg (And.intro hlt hlh))
      have HZ := Lib.hid (And.intro hsome (And.intro hs' hlx))
      clear hod hN hs128 hlsafe hcl hHL hmid hrg1 hrow2 hbel1 hrg hlt hlh hsome hs' hlx hws hwx hat hg1 hs1 hrow hrow1 hbel hcc c1 hi
      go_wp2
      go_still_tail 9, (by kernel_rfl)
      still_call kf
      repeat still_step
      (try refine wpStill_nil ?_)
      change wpList _ _ _ _ _ w2.drew
      refine Lib.wpList_copy_run w2.drew rfl _ _ 77 9 rfl _ _ rfl rfl hcp ?_
      clear hcp
      go_frame
      go_wp2
      go_roundw
      case rel =>
        obtain ⟨hod, hN, hs128, hlsafe, hcl, hHL, hmid, hrg1, hrow2, hbel1, hi⟩ := HX.out
        have h2 := hmid.step HO.out HF.out hi HZ.out.2.1 HZ.out.2.2
        rw [← hod, HM.out] at h2
        have k1 := (ranges_drew hrg1).kept (grownBy_setRow w2.drew g cs) (by simp; omega) (by simp; exact fun e => hgR e.symm)
        subst hN
        repeat apply Exists.intro
        exact ⟨⟨_, cnt1, _, k1, hrow2, h2, fun k hk => HY.out.2.2 k (Bool.and_eq_true_iff.1 hk).1, below_setRow (below_drew hbel1) hBg cs⟩, rfl⟩
      case measure =>
        obtain ⟨hod, hN, hs128, hlsafe, hcl, hHL, hmid, hrg1, hrow2, hbel1, hi⟩ := HX.out
        have k1 := (ranges_drew hrg1).kept (grownBy_setRow w2.drew g cs) (by simp; omega) (by simp; exact fun e => hgR e.symm)
        rw [k1.left_eq, HY.out.1.left_eq]; exact HY.out.2.1

set_option maxRecDepth 20000 in
set_option maxHeartbeats 1000000 in
theorem left_part (F : Nat → Prop) (p : Nat) (S : St) (w : World) (h : IsD w F p S) (G : Nat → Prop) (v : Value) (ch : List Int) (bx : Nat) (hb : w.cell? ⟨bx, 0, none⟩ = some v) (hcv : CV w G v ch) :
    Calls Tryz.prog 47 #[.pointer (some ⟨p, 0, none⟩), .func (.func 123) #[] #[.pointer (some ⟨bx, 0, none⟩)]] w fun e w' => ∃ g cap', e = .returned (.slice (some ⟨g, 0, none⟩) S.safe.length cap') ∧ w.heap.size ≤ g ∧ RowB w' g cap' (S.left (part ch)) ∧ Below w.heap.size w w' := by
  obtain ⟨sb, cap, mb, cv, hd, hc, h1, h2, h3⟩ := h
  obtain ⟨c0, c1, c2, c3, c4, hf⟩ := hd.cells
  have hlen := hd.ok.len
  have hlo := hd.ok.lo
  have hhi := hd.ok.hi
  have kc := cloneB_any sb cap S.safe w hd.row (by omega) (by omega)
  obtain ⟨n, Dm, ho, m1, m2, m3⟩ := hd.map
  have hpl := block_lt hd.blk
  obtain ⟨B, hB⟩ : ∃ B, B = w.heap.size := ⟨_, rfl⟩
  obtain ⟨f, hfd⟩ : ∃ f, f = part ch := ⟨_, rfl⟩
  have hfp : ∀ i, f i ≤ 128 := by subst hfd; exact part_le ch
  rw [← hfd]
  have HO := Lib.hid hd.ok
  have HMO := Lib.hid ho
  have HM1 := Lib.hid m1
  have HM2 := Lib.hid m2
  have HM3 := Lib.hid m3
  have HL := Lib.hid (And.intro hlen (And.intro hlo hhi))
  have HF := Lib.hid hfp
  have hbs := ho.lt
  have HB := Lib.hid hb
  have HCV := Lib.hid hcv
  clear hb hcv
  clear ho m1 m2 m3 hd hc hf hlen hlo hhi hfp c2 c3 c4
  go_enter Tryz.func47, Tryz.ntmps47
  go_wp2_with (first
    | (go_at_call 79; refine kc.mono ?_; rintro e w1 ⟨g, cap', rfl, hg, hr, hbw⟩; (have c1' : w1.cell? ⟨p, 1, none⟩ = some (.map (some mb)) := by (rw [← c1]; simp only [World.cell?, hbw.block p hpl])); (have HMO1 := Lib.hid (World.ownsMap.kept (row := none) HMO.out ⟨hbw.os, hbw.tape, hbw.output, hbw.size, fun k hk _ => hbw.block k hk⟩ (by simp))))
    | (at_range; refine wpList_range_own _ rfl _ 78 rfl 3 9 keyed3 Tryz.underlying78 _ mb n Dm rfl HMO1.out ?_; intro w0 hrg0 hg0 hs0)
    | go_in)
  (try go_frame)
  obtain ⟨R, hR⟩ : ∃ R, R = w1.heap.size := ⟨_, rfl⟩
  rw [← hR] at hrg0 ⊢
  have hgl := hr.lt
  have hgs := hbw.size
  have hgR : g ≠ R := by omega
  have hB0 : Below B w w0 := by rw [hB]; exact hbw.trans (⟨hg0.os, hg0.tape, hg0.output, hg0.size, fun k hk => hg0.block k (by omega) (by simp)⟩)
  have hr0 : RowB w0 g cap' S.safe := hr.of_heap (hg0.block g hgl (by simp))
  have HR := Lib.hid (And.intro hR (And.intro hB (And.intro hgs hgl)))
  have hBR : B ≤ R := by omega
  have hBg : B ≤ g := by omega
  have hmbB : mb < B := by omega
  clear hr hg0 hbw hg hgl hgs hR hB kc c1' hs0 c0
  go_loopw [6, 7] (fun _ _ wr => ∃ (left : Lit → Bool) (cnt : Nat) (cur : Bts), wr.ranges Tryz.prog 3 (plainElem Tryz.prog 9) mb R n Dm left cnt ∧ RowB wr g cap' cur ∧ Mid S f left cur ∧ (∀ k, left k = true → Maps.has Dm k = true) ∧ Below B w wr)
    (fun _ _ wr => wr.rangeLeft mb R)
  case atStart => exact ⟨_, _, S.safe, hrg0, hr0, Mid.start HO.out f HM2.out, fun _ h => h, hB0⟩
  case round =>
    obtain ⟨left, cnt, cur, hrg, hrow, hmid, hlh, hbel⟩ := hrel
    clear hrg0 hr0 hB0
    go_wp2_with (first
      | (at_next; refine wpList_next_ranges_is _ rfl _ rfl 3 9 .i64 keyed3 Tryz.underlying3 Tryz.underlying9 mb R n _ _ _ rfl hrg ?_ ?_)
      | go_in)
    · intro _ hl0
      go_wp2
      go_ret
      have e := Mid.done HO.out HF.out hmid hl0
      subst e
      exact ⟨g, cap', rfl, by have := HR.out; omega, hrow, by rw [← HR.out.2.1]; exact hbel⟩
    · intro x s w2 cnt1 hwx hws hlx hat hrg1 hlt hg1 hs1 hen
      have hrow1 : RowB w2 g cap' cur := hrow.of_heap (hg1.block g hrow.lt (by simp; exact hgR))
      have hbel1 : Below B w w2 := ⟨hg1.os.trans hbel.os, hg1.tape.trans hbel.tape, hg1.output.trans hbel.output, Nat.le_trans hbel.size hg1.size, fun k hk => (hg1.block k (Nat.lt_of_lt_of_le (by have := HR.out; omega) hbel.size) (by simp; omega)).trans (hbel.block k hk)⟩
      obtain ⟨i, hi, rfl⟩ := i64_nat x hwx S.count (HM1.out _ (hlh _ hlx))
      have hsome : (S.wr i).isSome = true := by rw [← HM2.out i hi]; exact hlh _ hlx
      obtain ⟨s', hs'⟩ := Option.isSome_iff_exists.1 hsome
      have es : s = ofL s' := by
        have := HM3.out i s' hi hs' (.lit (.string []))
        have h5 : Dm.atKey (kl i) (.lit (.string [])) = .lit (.string s.data.toList) := hat _
        rw [h5] at this
        have h6 : s.data.toList = s' := by simpa using this
        exact ofL_eq h6
      subst es
      have hs128 := (HO.out.wr i s' hs').2
      have hfi := HF.out i
      have hcl := hmid.1
      have hcc := hrow1.le
      have hHL := HL.out
      have hx : (i : Int) * 128 = ((128 * i : Nat) : Int) := by omega
      have hxi : (i : Int) < 4096 := by omega
      have hsz : (ofL s').size = 128 := by rw [ofL_size]; exact hs128
      have hex : (ofL s').extract 0 (f i) = ofL (s'.take (f i)) := ofL_eq (by rw [ext_nat _ _ (by omega), ofL_list])
      obtain ⟨cs, hcp, hrow2⟩ := RowB.copy (w := w2.drew) hrow1 (128 * i) (cur.length - 128 * i) (cap' - 128 * i) (ofL (s'.take (f i))) 3 (by rw [ofL_size]; simp; omega) (by rw [ofL_size]; simp; omega)
      rw [ofL_list] at hrow2
      rw [hcl] at hcp
      have hlsafe : S.safe.length = 128 * S.count := hHL.1
      obtain ⟨o, hod⟩ : ∃ o, o = 128 * i := ⟨_, rfl⟩
      obtain ⟨N, hN⟩ : ∃ N, N = S.safe.length := ⟨_, rfl⟩
      rw [← hN] at hlsafe ⊢
      rw [← hlsafe, ← hod] at hcp
      rw [← hod] at hx hrow2
      have ho1 : o ≤ N := by omega
      have ho2 : ¬ cap' = o := by omega
      have ho3 : N ≤ cap' := by omega
      have ho4 : N ≤ 524288 := by omega
      have hw : IntKind.i64.wrap (o : Int) = (o : Int) := by rw [IntKind.wrap_i64]; omega
      have HF4 := Lib.hid ho4
      clear ho4
      have kf : ∀ W, Below w.heap.size w W → Calls Tryz.prog 123 (#[.int .i64 (i : Int)] ++ #[.pointer (some ⟨bx, 0, none⟩)]) W fun e w' => e = .returned (.int .i64 (f i : Int)) ∧ w' = W := by
        subst hfd; exact fun W hW => (chosen1_any G v ch bx i W (by rw [← HB.out]; simp only [World.cell?, hW.block bx (block_lt_of_cell HB.out)]) (HCV.out.below hW) (by omega)).mono fun _ _ h => ⟨h.1, h.2.symm⟩
      replace kf := kf w2.drew (by rw [← HR.out.2.1]; exact below_drew hbel1)
      change Calls Tryz.prog 123 #[.int .i64 (i : Int), .pointer (some ⟨bx, 0, none⟩)] _ _ at kf
      obtain ⟨m, hm⟩ : ∃ m, m = f i := ⟨_, rfl⟩
      rw [← hm] at kf hex hfi hcp hrow2
      have hmi : (m : Int) ≤ 128 := by omega
      have HM := Lib.hid hm.symm
      clear hm
      have HX := Lib.hid (And.intro hod (And.intro hN (And.intro hs128 (And.intro hlsafe (And.intro hcl (And.intro hHL (And.intro hmid (And.intro hrg1 (And.intro hrow2 (And.intro hbel1 hi))))))))))
      have HY := Lib.hid (And.intro hrg (And.intro hlt hlh))
      have HZ := Lib.hid (And.intro hsome (And.intro hs' hlx))
      clear hod hN hs128 hlsafe hcl hHL hmid hrg1 hrow2 hbel1 hrg hlt hlh hsome hs' hlx hws hwx hat hg1 hs1 hrow hrow1 hbel hcc c1 hi
      go_wp2
      go_still_tail 9, (by kernel_rfl)
      still_call kf
      repeat still_step
      (try refine wpStill_nil ?_)
      change wpList _ _ _ _ _ w2.drew
      refine Lib.wpList_copy_run w2.drew rfl _ _ 77 9 rfl _ _ rfl rfl hcp ?_
      clear hcp
      go_frame
      go_wp2
      go_roundw
      case rel =>
        obtain ⟨hod, hN, hs128, hlsafe, hcl, hHL, hmid, hrg1, hrow2, hbel1, hi⟩ := HX.out
        have h2 := hmid.step HO.out HF.out hi HZ.out.2.1 HZ.out.2.2
        rw [← hod, HM.out] at h2
        have k1 := (ranges_drew hrg1).kept (grownBy_setRow w2.drew g cs) (by simp; omega) (by simp; exact fun e => hgR e.symm)
        subst hN
        repeat apply Exists.intro
        exact ⟨⟨_, cnt1, _, k1, hrow2, h2, fun k hk => HY.out.2.2 k (Bool.and_eq_true_iff.1 hk).1, below_setRow (below_drew hbel1) hBg cs⟩, rfl⟩
      case measure =>
        obtain ⟨hod, hN, hs128, hlsafe, hcl, hHL, hmid, hrg1, hrow2, hbel1, hi⟩ := HX.out
        have k1 := (ranges_drew hrg1).kept (grownBy_setRow w2.drew g cs) (by simp; omega) (by simp; exact fun e => hgR e.symm)
        rw [k1.left_eq, HY.out.1.left_eq]; exact HY.out.2.1
end Go.Proofs.YtjippoejaieneaaGreat

/- What is read of a disk, what becomes of it when the power goes, and why calls are refused. No conditions. -/
namespace Go.Proofs.YtjippoejaieneaaGreat
open Go.RowKit Go.Maps
set_option maxRecDepth 20000
set_option linter.unusedVariables false

set_option maxHeartbeats 400000 in
theorem image_any (F : Nat → Prop) (p : Nat) (S : St) (w : World) (h : IsD w F p S) :
    Calls Tryz.prog 14 #[.pointer (some ⟨p, 0, none⟩)] w fun e w' => e = .returned (.string (ofL S.image)) ∧ Below w.heap.size w w' := by
  have k := left_full F p S w h
  have HL := Lib.hid (And.intro (S.left_len h.ok full (fun _ => Nat.le_refl _)) h.ok.len)
  clear h
  go_enter Tryz.func14, Tryz.ntmps14
  go_wp2_with (first
    | (go_at_call 47; refine k.mono ?_; rintro e w' ⟨g, cap', rfl, _, hr, hb⟩; have hcv := hr.string (w' := w') 0 S.safe.length cap' (by rw [HL.out.1, HL.out.2]; omega)))
  go_ret
  rw [List.take_of_length_le (by rw [HL.out.1, HL.out.2]; omega)]
  exact ⟨rfl, hb⟩
theorem wpList_clear_run {ops : Array Oper} {rest : List Oper} {o : Oper} {a : Act} {w : World} {Q : Exit → Act → World → Prop} (hgd : o.guard = none) (s : Operand) (t : TypeId)
    (ho : o.op = .call { callee := .builtin .clear, args := #[s], argTypes := #[t] }) (vs v' : Value) (w' : World) (hs : a.eval s = vs)
    (hr : (Builtin.clear_ #[t] o.type #[vs]).run Tryz.prog w = .ok v' w') (hk : wpList Tryz.prog ops Q rest (a.put o.dst v') w') : wpList Tryz.prog ops Q (o :: rest) a w := by
  refine wpList_plain hgd fun K hK => ?_
  unfold Oper.wp execOp
  simp only [ho, resolve, invoke, builtin, Sem.run_bind, Sem.run_pure, Result.andThen_ok, List.map_toArray, List.map_cons, List.map_nil, hs, hr]
  exact hK _ _ hk
theorem CV.lt {w : World} {G : Nat → Prop} {cv : Value} {ch : List Int} (h : CV w G cv ch) : CV w (fun b => G b ∧ b < w.heap.size) cv ch := by
  obtain ⟨q, cap, h1, h2, h3⟩ := h
  refine ⟨q, cap, h1, h2, fun hne => ?_⟩
  obtain ⟨b, o, hq, hG, hlt, hc⟩ := h3 hne
  exact ⟨b, o, hq, ⟨hG, hlt⟩, hlt, hc⟩
/-- a disk at p in blocks of F and new ones; only blocks of F have turned -/
def To (F : Nat → Prop) (w w' : World) (p : Nat) (S : St) : Prop := ∃ F', IsD w' F' p S ∧ Gr F F' w w' ∧ Ch F w w'
theorem To.trans {F F1 : Nat → Prop} {w w1 w2 : World} {p : Nat} {S : St} (g : Gr F F1 w w1) (c : Ch F w w1) (h : To F1 w1 w2 p S) : To F w w2 p S := by
  obtain ⟨F2, d, g2, c2⟩ := h
  exact ⟨F2, d, g.trans g2 c.size c2.size, c.trans g c2⟩
theorem To.of_below {F : Nat → Prop} {w w' : World} {p : Nat} {S : St} (h : IsD w F p S) (hb : Below w.heap.size w w') : To F w w' p S := ⟨F, h.below hb, Gr.refl _ _ _, Ch.of_below hb⟩
theorem To.refl {F : Nat → Prop} {w : World} {p : Nat} {S : St} (h : IsD w F p S) : To F w w p S := ⟨F, h, Gr.refl _ _ _, Ch.refl _ _⟩
theorem To.then_below {F : Nat → Prop} {w w1 w2 : World} {p : Nat} {S : St} (h : To F w w1 p S) (hb : Below w1.heap.size w1 w2) : To F w w2 p S := by
  obtain ⟨F1, d, g, c⟩ := h
  exact To.trans g c (To.of_below d hb)
theorem To.after_below {F : Nat → Prop} {w w1 w2 : World} {p : Nat} {S : St} (hb : Below w.heap.size w w1) (h : To F w1 w2 p S) : To F w w2 p S := To.trans (Gr.refl _ _ _) (Ch.of_below hb) h
theorem St.lose_eq (S : St) (ch : List Int) : S.lose ch = ⟨S.left (part ch), fun _ => none, true, 0, []⟩ := rfl
set_option maxHeartbeats 1000000 in
theorem lose_any (F : Nat → Prop) (p : Nat) (S : St) (w : World) (h : IsD w F p S) (G : Nat → Prop) (v : Value) (ch : List Int) (hcv : CV w G v ch) :
    Calls Tryz.prog 67 #[.pointer (some ⟨p, 0, none⟩), v] w fun e w' => e = .returned (.tuple #[]) ∧ To F w w' p (S.lose ch) := by
  obtain ⟨q, n, cap, hv⟩ : ∃ q n cap, v = .slice q n cap := by obtain ⟨q, cap, e, _⟩ := hcv; exact ⟨_, _, _, e⟩
  have kc := chosen_any v q n cap hv w
  have hB1 : Below w.heap.size w (w.alloc (.cells #[v] 25)) := (Below.refl _ w).alloc (Nat.le_refl _) _
  have k := left_part F p S (w.alloc (.cells #[v] 25)) (h.below hB1) G v ch w.heap.size (by rw [cell_of_row _ _ _ _ _ _ (block_new w _)]; rfl) (hcv.below hB1)
  have hll : (S.left (part ch)).length = S.safe.length := by rw [S.left_len h.ok (part ch) (part_le ch), h.ok.len]
  obtain ⟨sb, cap0, mb, cv, hd, hc, h1, h2, h3⟩ := h
  have HD := Lib.hid hd
  have HC := Lib.hid hc
  have HB := Lib.hid hB1
  have HL := Lib.hid hll
  clear hcv hB1 hd hc hll
  subst hv
  generalize w.alloc (.cells #[.slice q n cap] 25) = w0 at *
  go_enter Tryz.func67, Tryz.ntmps67
  go_wp2_with (go_at_call 98; refine kc.mono ?_; rintro e w' ⟨rfl, rfl⟩)
  refine k.mono ?_
  rintro e w1 ⟨g, cap', rfl, hgs, hr, hb⟩
  have hb2 : Below w.heap.size w w1 := HB.out.trans (hb.mono HB.out.size)
  have d1 := HD.out.below hb2
  obtain ⟨c0, c1, c2, c3, c4, hf⟩ := d1.cells
  have f0 := hf 0
  have hgs2 : w.heap.size ≤ g := Nat.le_trans HB.out.size hgs
  have d2 := d1.set0 hr HL.out (by have := block_lt HD.out.blk; omega)
  rw [HL.out] at d2
  obtain ⟨c0', c1', c2', c3', c4', hf'⟩ := d2.cells
  obtain ⟨w3, hrun, hm3, hg3, hs3⟩ := d2.map.clear
  have hpm : some p ≠ some mb := fun e => d2.nm.1 (Option.some.inj e)
  have hgm : some g ≠ some mb := fun e => d2.nm.2 (Option.some.inj e)
  have hp3 := (hg3.block p (block_lt d2.blk) hpm).trans d2.blk
  have hr3 := d2.row.of_heap (hg3.block g d2.row.lt hgm)
  have d3 : D w3 p g cap' mb cv { S with safe := S.left (part ch), wr := fun _ => none } :=
    ⟨hp3, hr3, hm3, ⟨d2.ok.len, d2.ok.lo, d2.ok.hi, (fun i s hs => nomatch hs), d2.ok.armed, d2.ok.ch, d2.ok.chl⟩, d2.ne⟩
  obtain ⟨c0'', c1'', c2'', c3'', c4'', hf''⟩ := d3.cells
  have f2 := hf'' 2
  have d4 := d3.set2 true
  have hgl := hr.lt
  have hc1 := HC.out.lt.below hb2
  have i4 : IsD (w3.setCell ⟨p, 2, none⟩ (.bool true)) (fun b => F b ∨ b = g) p { S with safe := S.left (part ch), wr := fun _ => none, dead := true } := by
    refine ⟨g, cap', mb, cv, d4, ?_, .inl h1, .inr rfl, .inl h3⟩
    refine CV.mono (((hc1.setCell (a := ⟨p, 0, none⟩) (fun k hk => hk.1.2.1) _).of_heap (w' := w3) hg3.size ?_).setCell (a := ⟨p, 2, none⟩) (fun k hk => hk.1.2.1) _) ?_
    · intro k hk hG
      exact hg3.block k hk (fun e => hG.1.2.2.2 (Option.some.inj e))
    · intro k hk
      exact ⟨.inl hk.1.1, hk.1.2.1, by have := hk.2; omega, hk.1.2.2.2⟩
  have kd := disarm_any _ p _ _ i4
  have hch : Ch F w (w3.setCell ⟨p, 2, none⟩ (.bool true)) := (((Ch.of_below hb2).setCell h1 0 _).grown hg3 (fun j hj => by cases hj; exact .inl h3)).setCell h1 2 _
  have hgr : Gr F (fun b => F b ∨ b = g) w (w3.setCell ⟨p, 2, none⟩ (.bool true)) := fun k hk => by
    rcases hk with hk | rfl
    · exact .inl hk
    · right; rw [setCell_size, hs3, setCell_size]; exact ⟨hgs2, hgl⟩
  have HX := Lib.hid (And.intro hch hgr)
  clear hb2 d1 hf hgs hgs2 d2 hf' hm3 hg3 hs3 hpm hgm hp3 hr3 d3 hf'' d4 hc1 i4 hr hb hgl hch hgr k kc c1 c2 c3 c4 c0' c2' c3' c4' c0'' c3'' c4'' c1''
  go_wp2_with (first
    | (at_builtin; refine wpList_clear_run rfl _ 78 rfl _ _ _ rfl (hrun _) ?_)
    | (go_at_call 40; refine kd.mono ?_; rintro e w' ⟨rfl, g1, g2, g3⟩))
  go_end0
  exact ⟨rfl, _, g1, fun k hk => by rcases HX.out.2 k hk with q | q; exact .inl q; exact .inr (by rw [g3]; exact q), HX.out.1.trans HX.out.2 g2⟩
end Go.Proofs.YtjippoejaieneaaGreat
