/- Plain facts for the document's sum: the padding's bytes, the first state's numbers, rows that stay. No conditions. -/
import Derived.Test.YtdkhnklggidfpaaRefe
import Derived.Test.YtdkhnklggidfpaaOwm
namespace Go.Proofs.Ytdkhnklggidfpaa
open Go.RowKit
set_option linter.unusedVariables false

theorem newsB (w : World) (x : UInt8) : ∀ j u, ([x].map cellB)[j]? = some u → (w.alloc (.cells #[.int .u8 (x.toNat : Int)] 5)).cell? ((⟨w.heap.size, 0, none⟩ : Addr).add j) = some u := by
  intro j u hj
  match j, hj with
  | 0, hj => simp [cellB] at hj; subst hj; simp [Addr.add]
theorem newsR {w : World} {g : Nat} {l : List UInt8} (h : w.heap[g]? = some (.cells (bcells l) 5 (0, 0))) : ∀ j u, (l.map cellB)[j]? = some u → w.cell? ((⟨g, 0, none⟩ : Addr).add j) = some u := by
  intro j u hj
  rw [addr_at, Nat.zero_add, cell_of_row w g j _ _ _ h]
  simpa [bcells] using hj
def lenV : Value → Nat
  | .slice _ n _ => n
  | _ => 0
theorem cons_eq {a b : UInt8} {l m : List UInt8} (h : a = b) (k : l = m) : a :: l = b :: m := by rw [h, k]
theorem be8_four (m : Nat) (h : m < 18446744073709551616) : be8 m = four (m / 4294967296) ++ four (m % 4294967296) := by
  have e : ∀ a b : Nat, a % 256 = b % 256 → UInt8.ofNat a = UInt8.ofNat b := fun a b h => by
    apply UInt8.toNat_inj.1; rw [UInt8.toNat_ofNat', UInt8.toNat_ofNat']; exact h
  unfold be8 four
  simp only [List.cons_append, List.nil_append]
  iterate 8 refine cons_eq (e _ _ (by omega)) ?_
  rfl
/-- the first state, its first k numbers -/
def fillS (k : Nat) : List Nat := (stL first).take k ++ List.replicate (8 - k) 0
theorem fillS_len (k : Nat) (h : k ≤ 8) : (fillS k).length = 8 := by simp [fillS, stL]; omega
theorem fillS_set (k : Nat) (h : k < 8) : (fillS k).set k ((stL first).getD k 0) = fillS (k + 1) := by
  match k, h with
  | 0, _ => rfl
  | 1, _ => rfl
  | 2, _ => rfl
  | 3, _ => rfl
  | 4, _ => rfl
  | 5, _ => rfl
  | 6, _ => rfl
  | 7, _ => rfl
  | n + 8, h => omega
theorem root_first (k : Nat) (h : k < 8) : rootF (primes.getD k 0) 2 = (stL first).getD k 0 := by
  have hf : (primes.take 8).map (rootF · 2) = stL first := by
    rw [show primes.take 8 = [2, 3, 5, 7, 11, 13, 17, 19] from rfl, show stL first = [1779033703, 3144134277, 1013904242, 2773480762, 1359893119, 2600822924, 528734635, 1541459225] from rfl]
    exact roots_first
  have e : (stL first)[k]? = some (rootF (primes.getD k 0) 2) := by
    rw [← hf, List.getElem?_map, List.getElem?_take, if_pos h, List.getElem?_eq_getElem (show k < primes.length from Nat.lt_of_lt_of_le h (by decide)), List.getD_eq_getElem?_getD, List.getElem?_eq_getElem (show k < primes.length from Nat.lt_of_lt_of_le h (by decide)), Option.map_some, Option.getD_some]
  rw [show (stL first).getD k 0 = ((stL first)[k]?).getD 0 from List.getD_eq_getElem?_getD, e, Option.getD_some]
theorem zeros_lt (n k : Nat) (h : (n + 1 + k) % 64 ≠ 56) (hk : k ≤ zeros n) : k < zeros n := by
  unfold zeros at *; omega
theorem zeros_eq (n k : Nat) (h : (n + 1 + k) % 64 = 56) (hk : k ≤ zeros n) : k = zeros n := by
  unfold zeros at *; omega

/-- block g begins with these bytes -/
def RowB (w : World) (g : Nat) (l : List UInt8) : Prop := g < w.heap.size ∧ ∀ i, i < l.length → w.cell? ⟨g, i, none⟩ = some (.int .u8 ((l.getD i 0).toNat : Int))
theorem RowB.below {w w' : World} {B g : Nat} {l : List UInt8} (h : RowB w g l) (hb : Below B w w') (hg : g < B) : RowB w' g l :=
  ⟨Nat.lt_of_lt_of_le h.1 hb.size, fun i hi => by rw [hb.cell (p := ⟨g, i, none⟩) hg]; exact h.2 i hi⟩
theorem OwnM.row {w : World} {B : Nat} {v : Value} {l : List UInt8} (h : OwnM w B v l) : ∃ g cap, v = .slice (some ⟨g, 0, none⟩) l.length cap ∧ B ≤ g ∧ RowB w g l := by
  obtain ⟨g, cap, h1, h2, h3, h4⟩ := h.slice
  exact ⟨g, cap, h1, h2, h3, h4⟩
theorem RowU.other {w : World} {g b o : Nat} {l : List Nat} {v : Value} (h : RowU w g l) (hne : g ≠ b) : RowU (w.setCell ⟨b, o, none⟩ v) g l :=
  ⟨by simp [World.setCell]; exact h.1, fun i hi => by rw [World.cell?_of_block (a := ⟨g, i, none⟩) (w := w) (Below.heap_setCell w ⟨b, o, none⟩ v g hne)]; exact h.2 i hi⟩
theorem RowW.other {w : World} {g b o : Nat} {l : List Nat} {v : Value} (h : RowW w g l) (hne : g ≠ b) : RowW (w.setCell ⟨b, o, none⟩ v) g l :=
  ⟨by simp [World.setCell]; exact h.1, fun i hi => by rw [World.cell?_of_block (a := ⟨g, i, none⟩) (w := w) (Below.heap_setCell w ⟨b, o, none⟩ v g hne)]; exact h.2 i hi⟩
theorem madeW (n : Nat) : madeCells (Value.int .u32 0).cells n = wcells (List.replicate n 0) := by
  apply Array.toList_inj.1
  show (madeCells #[Value.int .u32 0] n).toList = _
  rw [toList_madeCells_one]
  simp [wcells, cellW]
theorem make8 (W : World) : (Instr.makeSlice 42 (.int .i64 8) (.int .i64 8)).run Try.prog W = .ok (.slice (some ⟨W.heap.size, 0, none⟩) 8 8) (W.alloc (.cells (wcells (fillS 0)) 47)) := by
  obtain ⟨i0, hi, hz0, hz1, hz2⟩ := info_parts Try.infoU32
  have h := run_make (P := Try.prog) W 42 47 i0 _ Try.underlying42 hi hz0 .i64 .i64 8 8 (by decide) (by decide) (by rw [hz2]; decide) (by decide)
  rw [h, hz1, show (8 : Int).toNat * 1 = 8 from rfl, madeW]
  rfl
theorem make64 (W : World) : (Instr.makeSlice 42 (.int .i64 64) (.int .i64 64)).run Try.prog W = .ok (.slice (some ⟨W.heap.size, 0, none⟩) 64 64) (W.alloc (.cells (wcells (List.replicate 64 0)) 47)) := by
  obtain ⟨i0, hi, hz0, hz1, hz2⟩ := info_parts Try.infoU32
  have h := run_make (P := Try.prog) W 42 47 i0 _ Try.underlying42 hi hz0 .i64 .i64 64 64 (by decide) (by decide) (by rw [hz2]; decide) (by decide)
  rw [h, hz1, show (64 : Int).toNat * 1 = 64 from rfl, madeW]
  rfl
theorem wcells_set (l : List Nat) (i : Nat) (x : Nat) : (wcells l).setIfInBounds i (.int .u32 (x : Int)) = wcells (l.set i x) := by
  unfold wcells
  rw [List.setIfInBounds_toArray, show Value.int .u32 (x : Int) = cellW x from rfl, ← List.map_set]
theorem root_lt (p n : Nat) : rootF p n < 4294967296 := Nat.mod_lt _ (by decide)
theorem fed_rest (P : List UInt8) (j : Nat) (h : 64 * j ≤ P.length) : (fed (P.take (64 * j))).2 = [] := by
  have := fed_len (P.take (64 * j))
  rw [List.length_take, Nat.min_eq_left h] at this
  exact List.length_eq_zero_iff.1 (by omega)
/-- the j-th block -/
def blk (P : List UInt8) (j : Nat) : List UInt8 := (P.drop (64 * j)).take 64
theorem blk_len (P : List UInt8) (j : Nat) (h : 64 * (j + 1) ≤ P.length) : (blk P j).length = 64 := by
  unfold blk; rw [List.length_take, List.length_drop]; omega
theorem blk_at (P : List UInt8) (j i : Nat) (h : i < 64) : (blk P j).getD i 0 = P.getD (64 * j + i) 0 := by
  unfold blk
  simp [List.getD, List.getElem?_drop, h]
theorem fed_block (P : List UInt8) (j : Nat) (h : 64 * (j + 1) ≤ P.length) : (fed (P.take (64 * (j + 1)))).1 = next (fed (P.take (64 * j))).1 (blk P j) := by
  have e : P.take (64 * (j + 1)) = P.take (64 * j) ++ blk P j := by
    unfold blk
    rw [show 64 * (j + 1) = 64 * j + 64 by omega, List.take_add]
  rw [e, fed_append]
  have h2 := fed_rest P j (by omega)
  generalize fed (P.take (64 * j)) = x at *
  obtain ⟨st, r⟩ := x
  simp only at h2
  subst h2
  rw [feeds_full (blk P j) st [] (by rw [blk_len P j h]; rfl) (by decide), List.nil_append]
theorem fed_all (P : List UInt8) : (fed (P.take P.length)).1 = (fed P).1 := by rw [List.take_length]
theorem ws_at_lt (l : List UInt8) (n i : Nat) : (ws l n).getD i 0 < 4294967296 := getD_lt (ws_lt l n) (by decide) i
theorem stL_len (s : St) : (stL s).length = 8 := rfl
theorem wpad_len (l : List UInt8) (n : Nat) (h : n ≤ 64) : (fillW (ws l n) (64 - n)).length = 64 := by unfold fillW; rw [List.length_append, ws_length, List.length_replicate]; omega
theorem wpad_at (l : List UInt8) (n i : Nat) (h : i < n) : (fillW (ws l n) (64 - n)).getD i 0 = (ws l n).getD i 0 := by
  unfold fillW
  rw [List.getD_eq_getElem?_getD, List.getElem?_append_left (by rw [ws_length]; exact h), ← List.getD_eq_getElem?_getD]
theorem wpad_set (l : List UInt8) (n x : Nat) (h : n < 64) (hx : ws l (n + 1) = ws l n ++ [x]) : (fillW (ws l n) (64 - n)).set n x = fillW (ws l (n + 1)) (64 - (n + 1)) := by
  rw [hx]
  unfold fillW
  rw [List.set_append_right _ _ (by rw [ws_length]; exact Nat.le_refl _), ws_length, Nat.sub_self, show 64 - n = (64 - (n + 1)) + 1 by omega, List.replicate_succ, List.set_cons_zero, List.append_assoc]
  rfl
end Go.Proofs.Ytdkhnklggidfpaa
