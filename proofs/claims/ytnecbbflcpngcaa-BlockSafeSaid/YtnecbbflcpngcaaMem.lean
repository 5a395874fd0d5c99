/- What a world holds of a disk: its cells, its row of bytes, its map. No conditions. -/
import Derived.Test.YtnecbbflcpngcaaRows
import Derived.Test.YtnecbbflcpngcaaMat
import Derived.WalkKit
import Derived.WalkSpells
import Derived.WalkLawsBesides
import Derived.Lib.Hide
import Derived.Lib.BufferWrite
import Derived.Maps.StringElems
import Derived.Maps.AppendAt
import Derived.Laws.IdiomStrings
import Derived.Laws.CopyRow
import Derived.Laws.MakeOwn
import Derived.Deep.QuietTactic
import Derived.BigQuiet
import Derived.Deep.MidRow
import Derived.Deep.WholeRow
import Derived.Deep.Cut
namespace Go.Proofs.Ytnecbbflcpngcaa
open Go.RowKit Go.Maps
set_option maxRecDepth 20000
set_option linter.unusedVariables false

theorem block_lt {w : World} {b : Nat} {o : Obj} (h : w.heap[b]? = some o) : b < w.heap.size := by
  rcases Nat.lt_or_ge b w.heap.size with h' | h'
  · exact h'
  · simp [Array.getElem?_eq_none h'] at h
theorem block_setCell {w : World} {b o : Nat} {C : Array Value} {t : TypeId} {fr : Nat × Nat} {u : Value} (h : w.heap[b]? = some (.cells C t fr)) :
    (w.setCell ⟨b, o, none⟩ u).heap[b]? = some (.cells (C.setIfInBounds o u) t fr) := by
  have hlt := block_lt h
  have h' : w.heap[b] = .cells C t fr := by simpa [Array.getElem?_eq_getElem hlt] using h
  show (w.heap.modify b _)[b]? = _
  rw [Array.getElem?_eq_getElem (by simpa using hlt), Array.getElem_modify_self, h']
  rfl
theorem block_setCell_other {w : World} {b : Nat} {x : Addr} {u : Value} (h : b ≠ x.block) : (w.setCell x u).heap[b]? = w.heap[b]? := heap_setCell_other w x b u h
theorem block_free {w : World} {b o : Nat} {C : Array Value} {t : TypeId} (h : w.heap[b]? = some (.cells C t (0, 0))) : w.frozen? ⟨b, o, none⟩ = false := by simp [World.frozen?, h]
theorem block_new (w : World) (o : Obj) : (w.alloc o).heap[w.heap.size]? = some o := heap_alloc_last w o
theorem block_alloc {w : World} {b : Nat} {o : Obj} (h : w.heap[b]? = some o) (o2 : Obj) : (w.alloc o2).heap[b]? = some o := by
  rw [Below.heap_alloc w o2 b (block_lt h)]; exact h
theorem heap_below {w w' : World} {B C : Nat} {o : Obj} (h : w.heap[B]? = some o) (hb : Below C w w') (hlt : B < C) : w'.heap[B]? = some o := by
  rw [hb.block B hlt]; exact h
theorem addr_at (b o i : Nat) : (⟨b, o, none⟩ : Addr).add i = ⟨b, o + i, none⟩ := Addr.add_mid b o i
theorem below_drewN {B : Nat} {a w : World} (h : Below B a w) (n : Nat) : Below B a (w.drewN n) := ⟨h.os, h.tape, h.output, h.size, h.block⟩
theorem below_trans {w w1 w2 : World} (h : Below w.heap.size w w1) (k : Below w1.heap.size w1 w2) : Below w.heap.size w w2 := h.trans (k.mono h.size)
def cellB (b : UInt8) : Value := .int .u8 (b.toNat : Int)

/-! ### what turns -/
/-- only blocks of F have turned -/
structure Ch (F : Nat → Prop) (w w' : World) : Prop where
  os : w'.os = w.os
  tape : w'.tape = w.tape
  output : w'.output = w.output
  size : w.heap.size ≤ w'.heap.size
  block : ∀ k, k < w.heap.size → ¬ F k → w'.heap[k]? = w.heap[k]?
theorem Ch.refl (F : Nat → Prop) (w : World) : Ch F w w := ⟨rfl, rfl, rfl, Nat.le_refl _, fun _ _ _ => rfl⟩
theorem Ch.of_below {F : Nat → Prop} {w w' : World} (h : Below w.heap.size w w') : Ch F w w' := ⟨h.os, h.tape, h.output, h.size, fun k hk _ => h.block k hk⟩
/-- F' has blocks of F and new ones -/
def Gr (F F' : Nat → Prop) (w w' : World) : Prop := ∀ k, F' k → F k ∨ (w.heap.size ≤ k ∧ k < w'.heap.size)
theorem Ch.trans {F F' : Nat → Prop} {w w1 w2 : World} (h : Ch F w w1) (hg : Gr F F' w w1) (k : Ch F' w1 w2) : Ch F w w2 :=
  ⟨k.os.trans h.os, k.tape.trans h.tape, k.output.trans h.output, Nat.le_trans h.size k.size, fun i hi hn => (k.block i (Nat.lt_of_lt_of_le hi h.size) (fun q => by rcases hg i q with q | q; exact hn q; omega)).trans (h.block i hi hn)⟩
theorem Gr.refl (F : Nat → Prop) (w w' : World) : Gr F F w w' := fun _ h => .inl h
theorem Gr.trans {F F1 F2 : Nat → Prop} {w w1 w2 : World} (h : Gr F F1 w w1) (k : Gr F1 F2 w1 w2) (hs : w.heap.size ≤ w1.heap.size) (hs2 : w1.heap.size ≤ w2.heap.size) : Gr F F2 w w2 := fun i hi => by
  rcases k i hi with q | q
  · rcases h i q with q | q
    · exact .inl q
    · right; omega
  · right; omega
theorem Ch.setCell {F : Nat → Prop} {w w' : World} (h : Ch F w w') {p : Nat} (hp : F p) (o : Nat) (v : Value) : Ch F w (w'.setCell ⟨p, o, none⟩ v) :=
  ⟨h.os, h.tape, h.output, by rw [show (w'.setCell ⟨p, o, none⟩ v).heap.size = w'.heap.size from by simp [World.setCell]]; exact h.size, fun k hk hn => by rw [block_setCell_other (fun e => hn (by subst e; exact hp))]; exact h.block k hk hn⟩
theorem Ch.setRow {F : Nat → Prop} {w w' : World} (h : Ch F w w') {p : Nat} (hp : F p) (cs : Array Value) : Ch F w (w'.setRow p cs) :=
  ⟨h.os, h.tape, h.output, by rw [setRow_size]; exact h.size, fun k hk hn => by rw [setRow_other _ _ _ _ (fun e => hn (by subst e; exact hp))]; exact h.block k hk hn⟩
theorem Ch.drew {F : Nat → Prop} {w w' : World} (h : Ch F w w') : Ch F w w'.drew := ⟨h.os, h.tape, h.output, h.size, h.block⟩
theorem Ch.grown {F : Nat → Prop} {w w' w'' : World} {r : Option Nat} (h : Ch F w w') (k : w'.grownBy w'' r) (hr : ∀ j, r = some j → F j ∨ w.heap.size ≤ j) : Ch F w w'' :=
  ⟨k.os.trans h.os, k.tape.trans h.tape, k.output.trans h.output, Nat.le_trans h.size k.size, fun i hi hn => (k.block i (Nat.lt_of_lt_of_le hi h.size) (fun e => by
    rcases hr i e.symm with q | q
    · exact hn q
    · omega)).trans (h.block i hi hn)⟩
theorem Ch.below {F : Nat → Prop} {B : Nat} {w w' : World} (h : Ch F w w') (hB : B ≤ w.heap.size) (hF : ∀ k, F k → B ≤ k) : Below B w w' :=
  ⟨h.os, h.tape, h.output, h.size, fun k hk => h.block k (by omega) (fun q => by have := hF k q; omega)⟩
theorem Ch.then_below {F : Nat → Prop} {w w' w'' : World} (h : Ch F w w') (k : Below w'.heap.size w' w'') : Ch F w w'' :=
  ⟨k.os.trans h.os, k.tape.trans h.tape, k.output.trans h.output, Nat.le_trans h.size k.size, fun i hi hn => (k.block i (Nat.lt_of_lt_of_le hi h.size)).trans (h.block i hi hn)⟩

/-! ### a row of bytes -/
/-- a mark that stands behind the row's end -/
def Past (cur : Array Value) (fr : Nat × Nat) : Prop := fr.2 = 0 ∨ cur.size ≤ fr.1
theorem Past.free {w : World} {g : Nat} {cur : Array Value} {t : TypeId} {fr : Nat × Nat} (h : Past cur fr) (hg : w.heap[g]? = some (.cells cur t fr)) (j : Nat) (hj : j < cur.size) : w.frozen? ⟨g, j, none⟩ = false := by
  obtain ⟨lo, hi⟩ := fr
  simp only [World.frozen?, hg]
  rcases h with h | h
  · simp at h; simp; omega
  · simp at h; simp; omega
theorem storeM (g o : Nat) (t : TypeId) : ∀ (vs : List Value) (i : Nat) (cur : Array Value) (fr : Nat × Nat) (w : World), w.heap[g]? = some (.cells cur t fr) → Past cur fr → o + i + vs.length ≤ cur.size → (∀ v ∈ vs, v.oneCell' = true) →
    (storeCells ⟨g, o, none⟩ vs i).run Try.prog w = .ok () (w.setRow g (cur.toList.take (o + i) ++ vs ++ cur.toList.drop (o + i + vs.length)).toArray)
  | [], i, cur, fr, w, hg, _, _, _ => by
    have e : (cur.toList.take (o + i) ++ [] ++ cur.toList.drop (o + i + 0)).toArray = cur := by rw [List.append_nil, Nat.add_zero, List.take_append_drop]
    rw [List.length_nil, e, setRow_self w g cur t fr hg]
    rfl
  | v :: rest, i, cur, fr, w, hg, hp, hl, h1 => by
    have hl2 : o + i + (rest.length + 1) ≤ cur.size := hl
    have hi : o + i < cur.size := by omega
    have hst : (store ((⟨g, o, none⟩ : Addr).add i) v).run Try.prog w = .ok () (w.setRow g (cur.setIfInBounds (o + i) v)) := by
      rw [addr_at, run_store Try.prog w _ v _ (h1 v List.mem_cons_self), cell_of_row w g _ cur t fr hg, Array.getElem?_eq_getElem hi]
      simp only [hp.free hg (o + i) hi, setCell_eq_setRow w g (o + i) cur t fr v hg]
      rfl
    have hp2 : Past (cur.setIfInBounds (o + i) v) fr := by unfold Past at *; simpa using hp
    have ih := storeM g o t rest (i + 1) (cur.setIfInBounds (o + i) v) fr _ (setRow_heap w g cur _ t fr hg) hp2 (by rw [Array.size_setIfInBounds]; omega) (fun x hx => h1 x (List.mem_cons_of_mem _ hx))
    simp only [storeCells, Sem.run_bind, hst, Result.andThen_ok, ih, setRow_setRow]
    have e := list_seg_step cur.toList (o + i) v rest (by rw [Array.length_toList]; omega)
    rw [List.length_cons, ← e, Array.toList_setIfInBounds]
    rfl
/-- block g is a row of cap cells that begins with l -/
def RowB (w : World) (g cap : Nat) (l : Bts) : Prop :=
  ∃ (cur : Array Value) (fr : Nat × Nat), w.heap[g]? = some (.cells cur 5 fr) ∧ Past cur fr ∧ l.length ≤ cap ∧ cap ≤ maxLen ∧ cur.size = cap ∧ cur.toList.take l.length = l.map cellB
theorem RowB.of_heap {w w' : World} {g cap : Nat} {l : Bts} (h : RowB w g cap l) (e : w'.heap[g]? = w.heap[g]?) : RowB w' g cap l := by
  obtain ⟨cur, fr, h1, h2⟩ := h
  exact ⟨cur, fr, by rw [e]; exact h1, h2⟩
theorem RowB.lt {w : World} {g cap : Nat} {l : Bts} (h : RowB w g cap l) : g < w.heap.size := by
  obtain ⟨cur, fr, h1, h2⟩ := h
  exact block_lt h1
theorem RowB.le {w : World} {g cap : Nat} {l : Bts} (h : RowB w g cap l) : l.length ≤ cap := by
  obtain ⟨cur, fr, h1, h2, h3, _⟩ := h
  exact h3
theorem RowB.cell {w : World} {g cap : Nat} {l : Bts} (h : RowB w g cap l) (i : Nat) (hi : i < l.length) : w.cell? ⟨g, i, none⟩ = some (.int .u8 ((l.getD i 0).toNat : Int)) := by
  obtain ⟨cur, fr, h3, h4, h5, h6, h7, h8⟩ := h
  rw [cell_of_row w g i cur 5 fr h3]
  have h9 : (cur.toList.take l.length)[i]? = (l.map cellB)[i]? := by rw [h8]
  rw [List.getElem?_take, if_pos hi, List.getElem?_map, List.getElem?_eq_getElem hi] at h9
  rw [← Array.getElem?_toList, h9]
  simp [cellB, List.getD, List.getElem?_eq_getElem hi]
theorem baList (s : ByteArray) : s.data.toList.length = s.size := by simp
def ofL (l : Bts) : ByteArray := ⟨l.toArray⟩
theorem ofL_list (l : Bts) : (ofL l).data.toList = l := by simp [ofL]
theorem ofL_size (l : Bts) : (ofL l).size = l.length := by simp [ofL, ByteArray.size]
theorem ofL_of (s : ByteArray) : ofL s.data.toList = s := by simp [ofL]
theorem ofL_eq {s : ByteArray} {l : Bts} (h : s.data.toList = l) : s = ofL l := by rw [← h, ofL_of]
/-- '[]byte(s)' -/
theorem RowB.made (w : World) (s : ByteArray) (hs : s.size ≤ 140737488355328) :
    ∃ cap w', (convert 9 30 (.string s)).run Try.prog w = .ok (.slice (some ⟨w.heap.size, 0, none⟩) s.size cap) w' ∧ RowB w' w.heap.size cap s.data.toList ∧ Below w.heap.size w w' ∧ w'.heap.size = w.heap.size + 1 := by
  have hr := run_bytes_of_string (P := Try.prog) w 9 30 5 s Try.underlying9 Try.underlying30 Try.underlying5
  have hge := grownCap_ge w s.size 0 5
  have hcm : grownCap w s.size 0 5 ≤ maxLen := grownCap_le_maxLen w s.size 0 5 (by unfold maxLen; omega)
  refine ⟨_, _, hr, ⟨_, _, heap_alloc_new w.drew _, Or.inr (Nat.le_refl _), by rw [baList]; exact hge, hcm, ?_, ?_⟩, ?_, ?_⟩
  · simp [bytesRow]; omega
  · simp [bytesRow, cellB]
  · exact Below.alloc (show Below w.heap.size w w.drew from ⟨rfl, rfl, rfl, Nat.le_refl _, fun _ _ => rfl⟩) (Nat.le_refl _) _
  · show (Array.push _ _).size = _
    simp
theorem Try.size5 : (Try.prog.info? 5).map (·.size) = some 1 := by kernel_rfl
/-- 'copy(d[o:], s)' -/
theorem RowB.copy {w : World} {g cap : Nat} {l : Bts} (h : RowB w g cap l) (o dLen dCap : Nat) (s : ByteArray) (ty : TypeId) (hs : s.size ≤ dLen) (ho : o + s.size ≤ l.length) :
    ∃ cs, (Builtin.copy_ #[30, 9] ty #[.slice (some ⟨g, o, none⟩) dLen dCap, .string s]).run Try.prog w = .ok (goInt s.size) (w.setRow g cs) ∧ RowB (w.setRow g cs) g cap (lay l o s.data.toList) := by
  obtain ⟨cur, fr, hg, hp, h1, h2, h3, h4⟩ := h
  have hsz : s.data.toList.length = s.size := by simp
  have hst := storeM g o 5 (s.data.toList.map cellB) 0 cur fr w hg hp (by rw [List.length_map, hsz]; omega) (by intro v hv; simp only [List.mem_map] at hv; obtain ⟨b, _, rfl⟩ := hv; rfl)
  rw [List.length_map, hsz] at hst
  simp only [Nat.add_zero] at hst
  refine ⟨(cur.toList.take o ++ s.data.toList.map cellB ++ cur.toList.drop (o + s.size)).toArray, ?_, ⟨_, fr, setRow_heap w g cur _ 5 fr hg, ?_, ?_, h2, ?_, ?_⟩⟩
  · obtain ⟨i, hi, hi1⟩ : ∃ i, Try.prog.info? 5 = some i ∧ i.size = 1 := by
      have := Try.size5
      cases hq : Try.prog.info? 5 with
      | none => simp [hq] at this
      | some i => exact ⟨i, rfl, by simpa [hq] using this⟩
    have e : List.map (fun b : UInt8 => Value.int IntKind.u8 (b.toNat : Int)) s.data.toList = s.data.toList.map cellB := rfl
    have em : Nat.min s.size dLen = s.size := Nat.min_eq_left hs
    have em2 : Nat.min dLen s.size = s.size := Nat.min_eq_right hs
    have et : List.take s.size (s.data.toList.map cellB) = s.data.toList.map cellB := List.take_of_length_le (by rw [List.length_map, hsz]; omega)
    simp [Builtin.copy_, run_underlying Try.underlying30, Builtin.lenOf, Builtin.firstCells, sizeOf, typeInfo, hi, em]
    rw [e, et, hst]
    simp [Result.andThen]
  · unfold Past at *
    rcases hp with hp | hp
    · exact .inl hp
    · refine .inr (Nat.le_trans ?_ hp)
      simp; omega
  · rw [lay_len (by omega)]; exact h1
  · simp; omega
  · rw [lay_len (by omega)]
    apply List.ext_getElem?
    intro j
    have h4j : (cur.toList.take l.length)[j]? = (l.map cellB)[j]? := by rw [h4]
    rw [List.getElem?_take, List.getElem?_map] at h4j
    rw [List.toList_toArray, List.getElem?_take, List.getElem?_map, lay_get (by omega), baList]
    by_cases hj : j < l.length
    · rw [if_pos hj]
      rw [if_pos hj] at h4j
      rw [List.append_assoc]
      by_cases a : j < o
      · rw [List.getElem?_append_left (by simp; omega), if_neg (by omega), List.getElem?_take, if_pos a, h4j]
      · rw [List.getElem?_append_right (by simp; omega)]
        have eo : (List.take o cur.toList).length = o := by simp; omega
        rw [eo]
        by_cases b : j < o + s.size
        · rw [if_pos (by omega), List.getElem?_append_left (by simp; omega), List.getElem?_map]
        · rw [if_neg (by omega), List.getElem?_append_right (by simp; omega), List.getElem?_drop, List.length_map, baList, ← h4j]
          congr 1; omega
    · rw [if_neg hj, if_neg (by omega), List.getElem?_eq_none (by omega)]
      rfl
theorem take_of_row {w : World} {g cap : Nat} {l : Bts} (h : RowB w g cap l) : ∀ j u, (l.map cellB)[j]? = some u → w.cell? ((⟨g, 0, none⟩ : Addr).add j) = some u := by
  obtain ⟨cur, fr, h3, h4, h5, h6, h7, h8⟩ := h
  intro j u hu
  rw [addr_at, Nat.zero_add, cell_of_row w g j cur 5 fr h3, ← Array.getElem?_toList]
  rw [← h8, List.getElem?_take] at hu
  split at hu
  · exact hu
  · cases hu
/-- 'string(l[o:][:n])' -/
theorem RowB.string {w w' : World} {g cap : Nat} {l : Bts} (h : RowB w g cap l) (o n c : Nat) (hn : o + n ≤ l.length) :
    (convert 30 9 (.slice (some ⟨g, o, none⟩) n c)).run Try.prog w = .ok (.string (ofL ((l.drop o).take n))) w := by
  have e : ((l.drop o).take n).length = n := by simp; omega
  have := run_convert_bytes_back (P := Try.prog) w 30 9 5 ⟨g, o, none⟩ c ((l.drop o).take n) Try.underlying30 Try.underlying5 Try.underlying9 (fun j hj => by
    rw [addr_at, h.cell _ (by rw [e] at hj; omega)]
    rw [e] at hj
    congr 3
    simp [List.getD, List.getElem?_eq_getElem (show o + j < l.length by omega)])
  rw [e] at this
  exact this
end Go.Proofs.Ytnecbbflcpngcaa
