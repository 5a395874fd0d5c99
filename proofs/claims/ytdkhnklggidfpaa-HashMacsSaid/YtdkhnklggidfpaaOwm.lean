/- A row of bytes that the call owns, with or without a conversion's mark behind its end: what append does to it. Conditions: the bytes are few enough for a machine. -/
import Derived.Test.YtdkhnklggidfpaaSum
import Derived.Maps.AppendAt
import Derived.Laws.IdiomStrings
namespace Go.Proofs.Ytdkhnklggidfpaa
open Go.RowKit
set_option linter.unusedVariables false

/-- a mark that stands behind the row's end -/
def Past (cur : Array Value) (fr : Nat × Nat) : Prop := fr.2 = 0 ∨ cur.size ≤ fr.1
theorem Past.free {w : World} {g : Nat} {cur : Array Value} {t : TypeId} {fr : Nat × Nat} (h : Past cur fr) (hg : w.heap[g]? = some (.cells cur t fr)) (j : Nat) (hj : j < cur.size) : w.frozen? ⟨g, j, none⟩ = false := by
  obtain ⟨lo, hi⟩ := fr
  simp only [World.frozen?, hg]
  rcases h with h | h
  · simp at h; simp; omega
  · simp at h; simp; omega
theorem storeM (g o : Nat) (t : TypeId) : ∀ (vs : List Value) (i : Nat) (cur : Array Value) (fr : Nat × Nat) (w : World), w.heap[g]? = some (.cells cur t fr) → Past cur fr → o + i + vs.length ≤ cur.size → (∀ v ∈ vs, v.oneCell' = true) →
    (storeCells ⟨g, o, none⟩ vs i).run Try.prog w = .ok () (w.setRow g (cur.toList.take (o + i) ++ vs ++ cur.toList.drop (o + i + vs.length)).toArray)
  | [], i, cur, fr, w, hg, _, _, _ => by
    have e : (cur.toList.take (o + i) ++ [] ++ cur.toList.drop (o + i + 0)).toArray = cur := by rw [List.append_nil, Nat.add_zero, List.take_append_drop]
    rw [List.length_nil, e, setRow_self w g cur t fr hg]
    rfl
  | v :: rest, i, cur, fr, w, hg, hp, hl, h1 => by
    have hl2 : o + i + (rest.length + 1) ≤ cur.size := hl
    have hi : o + i < cur.size := by omega
    have hst : (store ((⟨g, o, none⟩ : Addr).add i) v).run Try.prog w = .ok () (w.setRow g (cur.setIfInBounds (o + i) v)) := by
      rw [addr_at, run_store Try.prog w _ v _ (h1 v List.mem_cons_self), cell_of_row w g _ cur t fr hg, Array.getElem?_eq_getElem hi]
      simp only [hp.free hg (o + i) hi, setCell_eq_setRow w g (o + i) cur t fr v hg]
      rfl
    have hp2 : Past (cur.setIfInBounds (o + i) v) fr := by unfold Past at *; simpa using hp
    have ih := storeM g o t rest (i + 1) (cur.setIfInBounds (o + i) v) fr _ (setRow_heap w g cur _ t fr hg) hp2 (by rw [Array.size_setIfInBounds]; omega) (fun x hx => h1 x (List.mem_cons_of_mem _ hx))
    simp only [storeCells, Sem.run_bind, hst, Result.andThen_ok, ih, setRow_setRow]
    have e := list_seg_step cur.toList (o + i) v rest (by rw [Array.length_toList]; omega)
    rw [List.length_cons, ← e, Array.toList_setIfInBounds]
    rfl

/-- the bytes so far, in a row of their own, marked or not -/
def OwnM (w : World) (B : Nat) (v : Value) (l : List UInt8) : Prop :=
  ∃ (g cap : Nat) (cur : Array Value) (fr : Nat × Nat), v = .slice (some ⟨g, 0, none⟩) l.length cap ∧ B ≤ g ∧ w.heap[g]? = some (.cells cur 5 fr) ∧ Past cur fr ∧ l.length ≤ cap ∧ cap ≤ maxLen ∧ cur.size = cap ∧ cur.toList.take l.length = l.map cellB
theorem OwnM.of_heap {w w' : World} {B : Nat} {v : Value} {l : List UInt8} (h : OwnM w B v l) (e : ∀ g, g < w.heap.size → w'.heap[g]? = w.heap[g]?) : OwnM w' B v l := by
  obtain ⟨g, cap, cur, fr, h1, h2, h3, h4⟩ := h
  exact ⟨g, cap, cur, fr, h1, h2, by rw [e g (block_lt h3)]; exact h3, h4⟩
theorem OwnM.below {w w' : World} {B : Nat} {v : Value} {l : List UInt8} (h : OwnM w B v l) (hb : Below w.heap.size w w') : OwnM w' B v l := h.of_heap fun g hg => hb.block g hg
theorem OwnM.alloc {w : World} {B : Nat} {v : Value} {l : List UInt8} (h : OwnM w B v l) (o : Obj) : OwnM (w.alloc o) B v l := h.of_heap fun g hg => heap_alloc_old w o hg
theorem OwnM.slice {w : World} {B : Nat} {v : Value} {l : List UInt8} (h : OwnM w B v l) : ∃ g cap, v = .slice (some ⟨g, 0, none⟩) l.length cap ∧ B ≤ g ∧ g < w.heap.size ∧ ∀ i, i < l.length → w.cell? ⟨g, i, none⟩ = some (.int .u8 ((l.getD i 0).toNat : Int)) := by
  obtain ⟨g, cap, cur, fr, rfl, h2, h3, h4, h5, h6, h7, h8⟩ := h
  refine ⟨g, cap, rfl, h2, block_lt h3, fun i hi => ?_⟩
  rw [cell_of_row w g i cur 5 fr h3]
  have h9 : (cur.toList.take l.length)[i]? = (l.map cellB)[i]? := by rw [h8]
  rw [List.getElem?_take, if_pos hi, List.getElem?_map, List.getElem?_eq_getElem hi] at h9
  rw [← Array.getElem?_toList, h9]
  simp [cellB, List.getD, List.getElem?_eq_getElem hi]
/-- the row of a conversion -/
theorem OwnM.made (w : World) (s : ByteArray) (B : Nat) (hB : B ≤ w.heap.size) (hs : s.size ≤ 140737488355328) :
    ∃ w', (convert 9 32 (.string s)).run Try.prog w = .ok (.slice (some ⟨w.heap.size, 0, none⟩) s.size (grownCap w s.size 0 5)) w' ∧ OwnM w' B (.slice (some ⟨w.heap.size, 0, none⟩) s.size (grownCap w s.size 0 5)) s.data.toList ∧ Below B w w' := by
  have hr := run_bytes_of_string (P := Try.prog) w 9 32 5 s Try.underlying9 Try.underlying32 Try.underlying5
  have hge := grownCap_ge w s.size 0 5
  have hcm : grownCap w s.size 0 5 ≤ maxLen := grownCap_le_maxLen w s.size 0 5 (by unfold maxLen; omega)
  refine ⟨_, hr, ⟨_, _, _, _, by rw [baList], hB, heap_alloc_new w.drew _, Or.inr (Nat.le_refl _), by rw [baList]; exact hge, hcm, ?_, ?_⟩, ?_⟩
  · simp [bytesRow]; omega
  · simp [bytesRow, cellB]
  · exact Below.alloc (show Below B w w.drew from ⟨rfl, rfl, rfl, Nat.le_refl _, fun _ _ => rfl⟩) hB _

theorem appendM {w : World} {B : Nat} {v : Value} {l : List UInt8} (h : OwnM w B v l) (ty : TypeId) (ad : Addr) (m c : Nat) (news : List UInt8) (hm : news.length = m) (h0 : 0 < m)
    (hnews : ∀ j u, (news.map cellB)[j]? = some u → w.cell? (ad.add j) = some u) (hsz : l.length + m ≤ 140737488355328) (hB : B ≤ w.heap.size) :
    ∃ v' w', (Builtin.append_ #[32, 32] ty #[v, .slice (some ad) m c]).run Try.prog w = .ok v' w' ∧ OwnM w' B v' (l ++ news) ∧ Below B w w' := by
  obtain ⟨i0, hi, hz0, hz1, hz2⟩ := info_parts Try.info5
  obtain ⟨g, cap, cur, fr, rfl, hBg, hg, hp, hlc, hcm, hcs, htk⟩ := h
  have h1 : ∀ u ∈ news.map cellB, u.oneCell' = true := by
    intro u hu
    obtain ⟨x, _, rfl⟩ := List.mem_map.1 hu
    rfl
  by_cases hroom : l.length + m ≤ cap
  · have hst := storeM g l.length 5 (news.map cellB) 0 cur fr w hg hp (by rw [List.length_map]; omega) h1
    simp only [Nat.add_zero] at hst
    have hf := run_firstCells_some (P := Try.prog) w i0.size m ad m c (news.map cellB) (by rw [List.length_map, hz1]; omega) hnews
    rw [hz1] at hf
    refine ⟨.slice (some ⟨g, 0, none⟩) (l.length + m) cap, w.setRow g (List.take l.length cur.toList ++ List.map cellB news ++ List.drop (l.length + (List.map cellB news).length) cur.toList).toArray, ?_, ⟨g, cap, _, fr, by rw [List.length_append, hm], hBg, setRow_heap w g cur _ 5 fr hg, ?_, by rw [List.length_append, hm]; exact hroom, hcm, ?_, ?_⟩, below_setRow (Below.refl _ _) hBg _⟩
    · simp [Builtin.append_, run_underlying Try.underlying32, Go.sizeOf, typeInfo, hi, hz1, Builtin.lenOf, hroom, hf, Addr.add_lit, hst]
    · rcases hp with hp | hp
      · exact .inl hp
      · refine .inr (Nat.le_trans ?_ hp)
        simp; omega
    · simp; omega
    · rw [List.length_append, List.map_append, ← htk, List.toList_toArray, List.take_append_of_le_length (by simp; omega)]
      rw [List.take_of_length_le (by simp; omega)]
  · have hcell : ∀ j u, (l.map cellB)[j]? = some u → w.cell? ((⟨g, 0, none⟩ : Addr).add j) = some u := by
      intro j u hu
      rw [addr_at, Nat.zero_add, cell_of_row w g j cur 5 fr hg, ← Array.getElem?_toList]
      rw [← htk, List.getElem?_take] at hu
      split at hu
      · exact hu
      · cases hu
    have hr := run_append_grow (P := Try.prog) w 32 ty 5 i0 _ Try.underlying32 hi hz0 ⟨g, 0, none⟩ l.length cap (l.map cellB) (by rw [List.length_map, hz1, Nat.mul_one]) hcell ad m c (news.map cellB) (by rw [List.length_map, hz1, Nat.mul_one, hm]) hnews (by omega) (by omega) (by rw [hz2]; exact growslice_fits (by omega) (by omega))
    have hge := grownCap_ge w (l.length + m) cap 5
    have hcm2 : grownCap w (l.length + m) cap 5 ≤ maxLen := grownCap_le_maxLen w (l.length + m) cap 5 (by unfold maxLen; omega)
    refine ⟨_, _, hr, ⟨w.heap.size, _, _, (0, 0), by rw [List.length_append, hm], hB, heap_alloc_new w.drew _, .inl rfl, by rw [List.length_append, hm]; exact hge, hcm2, ?_, ?_⟩, ?_⟩
    · simp [size_zeroCells, hm, Value.cells]; omega
    · rw [List.length_append, List.map_append]
      simp [List.take_append]
      exact List.take_of_length_le (by simp)
    · exact Below.alloc (show Below B w w.drew from ⟨rfl, rfl, rfl, Nat.le_refl _, fun _ _ => rfl⟩) hB _

theorem wpList_appendM {ops : Array Oper} {rest : List Oper} {o : Oper} {a : Act} {w : World} {Q : Exit → Act → World → Prop} (hgd : o.guard = none) (s x : Operand)
    (ho : o.op = .call { callee := .builtin .append, args := #[s, x], argTypes := #[32, 32] })
    (B : Nat) (v : Value) (l : List UInt8) (hs : a.eval s = v) (h : OwnM w B v l) (ad : Addr) (m c : Nat) (news : List UInt8) (hx : a.eval x = .slice (some ad) m c) (hm : news.length = m) (h0 : 0 < m)
    (hnews : ∀ j u, (news.map cellB)[j]? = some u → w.cell? (ad.add j) = some u) (hsz : l.length + m ≤ 140737488355328) (hB : B ≤ w.heap.size)
    (hk : ∀ v' w', OwnM w' B v' (l ++ news) → Below B w w' → wpList Try.prog ops Q rest (a.put o.dst v') w') : wpList Try.prog ops Q (o :: rest) a w := by
  refine wpList_plain hgd fun K hK => ?_
  obtain ⟨v', w', hr, h2, h3⟩ := appendM h o.type ad m c news hm h0 hnews hsz hB
  unfold Oper.wp execOp
  simp only [ho, resolve, invoke, builtin, Sem.run_bind, Sem.run_pure, Result.andThen_ok, List.map_toArray, List.map_cons, List.map_nil, hs, hx, hr]
  exact hK _ _ (hk v' w' h2 h3)
end Go.Proofs.Ytdkhnklggidfpaa
