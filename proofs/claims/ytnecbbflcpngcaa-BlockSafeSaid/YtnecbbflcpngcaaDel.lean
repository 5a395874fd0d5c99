/- A block taken out of the cache's row. No conditions. -/
import Derived.Test.YtnecbbflcpngcaaCch
import Derived.Deep.RegionLaw
import Derived.Lib.SliceRun
import Derived.Lib.SlicesDelete
namespace Go.Proofs.Ytnecbbflcpngcaa
open Go.RowKit Go.Maps Go.Lib
set_option maxRecDepth 20000
set_option linter.unusedVariables false

theorem setCells_heap (b : Nat) (t : TypeId) (fr : Nat × Nat) : ∀ (vs : List Value) (o : Nat) (w : World) (cur : Array Value), w.heap[b]? = some (.cells cur t fr) → o + vs.length ≤ cur.size →
    (w.setCells b o vs).heap[b]? = some (.cells (cur.toList.take o ++ vs ++ cur.toList.drop (o + vs.length)).toArray t fr)
  | [], o, w, cur, h, _ => by
    show w.heap[b]? = _
    rw [List.append_nil, List.length_nil, Nat.add_zero, List.take_append_drop]; exact h
  | v :: r, o, w, cur, h, hl => by
    have hl2 : o + (r.length + 1) ≤ cur.size := hl
    have ih := setCells_heap b t fr r (o + 1) (w.setCell ⟨b, o, none⟩ v) _ (block_setCell (o := o) (u := v) h) (by rw [Array.size_setIfInBounds]; omega)
    show ((w.setCell ⟨b, o, none⟩ v).setCells b (o + 1) r).heap[b]? = _
    rw [ih]
    have e := list_seg_step cur.toList o v r (by rw [Array.length_toList]; omega)
    rw [List.length_cons, ← e, Array.toList_setIfInBounds]
theorem setCells_else (b : Nat) : ∀ (vs : List Value) (o : Nat) (w : World), (w.setCells b o vs).heap.size = w.heap.size ∧ (w.setCells b o vs).os = w.os ∧ (w.setCells b o vs).tape = w.tape ∧ (w.setCells b o vs).output = w.output ∧ ∀ k, k ≠ b → (w.setCells b o vs).heap[k]? = w.heap[k]?
  | [], o, w => ⟨rfl, rfl, rfl, rfl, fun _ _ => rfl⟩
  | v :: r, o, w => by
    obtain ⟨h1, h2, h3, h4, h5⟩ := setCells_else b r (o + 1) (w.setCell ⟨b, o, none⟩ v)
    exact ⟨by show ((w.setCell ⟨b, o, none⟩ v).setCells b (o + 1) r).heap.size = _; rw [h1]; simp [World.setCell], h2, h3, h4, fun k hk => (h5 k hk).trans (block_setCell_other (x := ⟨b, o, none⟩) hk)⟩
/-- block g alone has turned -/
structure On (g : Nat) (w w' : World) : Prop where
  os : w'.os = w.os
  tape : w'.tape = w.tape
  output : w'.output = w.output
  size : w'.heap.size = w.heap.size
  block : ∀ k, k ≠ g → w'.heap[k]? = w.heap[k]?
theorem On.setCells (g : Nat) (vs : List Value) (o : Nat) (w : World) : On g w (w.setCells g o vs) := by
  obtain ⟨h1, h2, h3, h4, h5⟩ := setCells_else g vs o w
  exact ⟨h2, h3, h4, h1, h5⟩
theorem On.trans {g : Nat} {a b c : World} (h : On g a b) (k : On g b c) : On g a c := ⟨k.os.trans h.os, k.tape.trans h.tape, k.output.trans h.output, k.size.trans h.size, fun i hi => (k.block i hi).trans (h.block i hi)⟩
theorem On.drew {g : Nat} {a b : World} (h : On g a.drew b) : On g a b := ⟨h.os, h.tape, h.output, h.size, h.block⟩
def zeroBk : List Value := [.int .i64 0, .string ByteArray.empty, .int .i64 0]
theorem clear_one (w : World) (ty : TypeId) (b o c : Nat) (hc : ∀ j, j < 3 → (w.cell? ⟨b, o + j, none⟩).isSome = true) (hf : ∀ j, j < 3 → w.frozen? ⟨b, o + j, none⟩ = false) :
    (Builtin.clear_ #[97] ty #[.slice (some ⟨b, o, none⟩) 1 c]).run Try.prog w = .ok (.tuple #[]) (w.setCells b o zeroBk) := by
  have hst := run_storeCells_cells (P := Try.prog) b o zeroBk 0 w (by simpa [zeroBk] using hc) (by simpa [zeroBk] using hf) (by intro v hv; unfold zeroBk at hv; simp only [List.mem_cons, List.not_mem_nil, or_false] at hv; rcases hv with rfl | rfl | rfl <;> rfl)
  simp only [Nat.add_zero] at hst
  have hz : ∀ w, (zeroValue 105).run Try.prog w = .ok (.agg #[.int .i64 0, .string ByteArray.empty, .int .i64 0]) w := fun w => by kernel_rfl
  have hzc : (Builtin.zeroCells (Value.agg #[.int .i64 0, .string ByteArray.empty, .int .i64 0]).cells 1).toList = zeroBk := by kernel_rfl
  simp [Builtin.clear_, run_underlying Try.underlying97, hz, hzc, hst]
theorem Try.info105 : (Try.prog.info? 105).map (fun i => (i.zero, i.size, i.bytes)) = some (some (.agg #[.int .i64 0, .string ByteArray.empty, .int .i64 0]), 3, 32) := by kernel_rfl
theorem erase_row (l : List Bk) (k : Nat) : rowL (l.eraseIdx k) = rowL (l.take k) ++ rowL (l.drop (k + 1)) := by
  rw [List.eraseIdx_eq_take_drop_succ, rowL_append]
theorem rowL_take (l : List Bk) (k : Nat) (hk : k ≤ l.length) : rowL (l.take k) = (rowL l).take (k * 3) := by
  have e : rowL l = rowL (l.take k) ++ rowL (l.drop k) := by rw [← rowL_append, List.take_append_drop]
  have el : (rowL (l.take k)).length = k * 3 := by rw [rowL_len, List.length_take]; congr 1; omega
  rw [e, List.take_append_of_le_length (by omega), List.take_of_length_le (l := rowL (l.take k)) (by omega)]
theorem rowL_drop (l : List Bk) (k : Nat) (hk : k ≤ l.length) : rowL (l.drop k) = (rowL l).drop (k * 3) := by
  have e : rowL l = rowL (l.take k) ++ rowL (l.drop k) := by rw [← rowL_append, List.take_append_drop]
  have el : (rowL (l.take k)).length = k * 3 := by rw [rowL_len, List.length_take]; congr 1; omega
  rw [e, List.drop_append, List.drop_of_length_le (l := rowL (l.take k)) (by omega), el, Nat.sub_self]; rfl
set_option maxHeartbeats 4000000 in
theorem del_any (g cap k : Nat) (l : List Bk) (w : World) (hk : k < l.length) (h : w.ownsRow 0 105 3 (.slice (some ⟨g, 0, none⟩) l.length cap) l.length (rowL l)) :
    Calls Try.prog 94 #[.slice (some ⟨g, 0, none⟩) l.length cap, .int .i64 (k : Int), .int .i64 ((k : Int) + 1)] w fun e w' => e = .returned (.slice (some ⟨g, 0, none⟩) (l.length - 1) cap) ∧
      w'.ownsRow 0 105 3 (.slice (some ⟨g, 0, none⟩) (l.length - 1) cap) (l.eraseIdx k).length (rowL (l.eraseIdx k)) ∧ On g w w' := by
  rcases h.2 with ⟨e1, _⟩ | ⟨g', c, cur, e1, h1, hg, hn, hcm, hcs, htk⟩
  · cases e1
  · injection e1 with e1 e2 e3
    injection e1 with e1
    injection e1 with e1
    subst e1; subst e3
    obtain ⟨n, hn'⟩ : ∃ n, n = l.length := ⟨_, rfl⟩
    rw [← hn'] at hk hn htk ⊢
    obtain ⟨i0, hi0, hz0, hz1, hz2⟩ := info_parts Try.info105
    obtain ⟨news, hnews⟩ : ∃ news, news = rowL (l.drop (k + 1)) := ⟨_, rfl⟩
    have hlen : news.length = (n - (k + 1)) * 3 := by rw [hnews, rowL_len, List.length_drop, hn']
    have hget : ∀ t u, news[t]? = some u → w.cell? ⟨g, (k + 1) * 3 + t, none⟩ = some u := by
      intro t u hu
      have ht := (List.getElem?_eq_some_iff.1 hu).1
      rw [hnews, rowL_drop l (k + 1) (by omega), List.getElem?_drop, ← htk, List.getElem?_take, if_pos (by omega), Array.getElem?_toList] at hu
      rw [cell_of_row _ _ _ _ _ _ hg]; exact hu
    obtain ⟨A, hA, hsrc⟩ : ∃ A : Addr, (if cap = k + 1 then some (⟨g, 0, none⟩ : Addr) else some ⟨g, (k + 1) * 3, none⟩) = some A ∧ Hid (∀ t u, news[t]? = some u → w.drew.cell? (A.add t) = some u) := by
      by_cases q : cap = k + 1
      · refine ⟨⟨g, 0, none⟩, by simp [q], fun t u hu => ?_⟩
        have h0 : news.length = 0 := by rw [hlen]; omega
        rw [List.length_eq_zero_iff.1 h0] at hu
        simp at hu
      · refine ⟨⟨g, (k + 1) * 3, none⟩, by simp [q], fun t u hu => ?_⟩
        rw [addr_at]
        exact hget t u hu
    have s1 := Lib.hid hlen
    have s2 : Hid (∀ u ∈ news, u.oneCell' = true) := by rw [hnews]; exact rowL_one _
    have hsome : ∀ j, j < cap * 3 → (w.cell? ⟨g, j, none⟩).isSome = true := fun j hj => by
      rw [cell_of_row _ _ _ _ _ _ hg, Array.getElem?_eq_getElem (by omega)]; rfl
    have s3 : Hid (∀ t, t < news.length → (w.drew.cell? ⟨g, 0 + k * 3 + t, none⟩).isSome = true ∧ w.drew.frozen? ⟨g, 0 + k * 3 + t, none⟩ = false) := by
      intro t ht
      rw [hlen] at ht
      exact ⟨hsome _ (by omega), block_free hg⟩
    obtain ⟨W1, hW1⟩ : ∃ W1, W1 = w.drew.setCells g (0 + k * 3) news := ⟨_, rfl⟩
    obtain ⟨cur1, hcur1⟩ : ∃ c, c = (cur.toList.take (0 + k * 3) ++ news ++ cur.toList.drop (0 + k * 3 + news.length)).toArray := ⟨_, rfl⟩
    have hb1 : W1.heap[g]? = some (.cells cur1 105 (0, 0)) := by
      rw [hW1, hcur1]; exact setCells_heap g 105 (0, 0) news _ w.drew cur hg (by rw [hlen]; omega)
    have hc1 : cur1.size = cap * 3 := by rw [hcur1]; simp [hlen]; omega
    have hcl := clear_one W1 0 g ((n - 1) * 3) (cap - (n - 1)) (fun j hj => by rw [cell_of_row _ _ _ _ _ _ hb1, Array.getElem?_eq_getElem (by omega)]; rfl) (fun j hj => block_free hb1)
    have hb2 := setCells_heap g 105 (0, 0) zeroBk ((n - 1) * 3) W1 cur1 hb1 (by show _ + 3 ≤ _; omega)
    have hon : On g w (W1.setCells g ((n - 1) * 3) zeroBk) := by
      refine On.trans ?_ (On.setCells g zeroBk _ W1)
      rw [hW1]; exact On.drew (On.setCells g news _ w.drew)
    have hfin : Hid ((W1.setCells g ((n - 1) * 3) zeroBk).ownsRow 0 105 3 (.slice (some ⟨g, 0, none⟩) (n - 1) cap) (l.eraseIdx k).length (rowL (l.eraseIdx k)) ∧ On g w (W1.setCells g ((n - 1) * 3) zeroBk)) := by
      have el : (l.eraseIdx k).length = n - 1 := by rw [List.length_eraseIdx]; rw [if_pos (by omega)]; omega
      refine ⟨⟨by rw [rowL_len], .inr ⟨g, cap, _, by rw [el], Nat.zero_le _, hb2, by rw [el]; omega, hcm, ?_, ?_⟩⟩, hon⟩
      · simp [hc1, zeroBk]; omega
      · rw [el, List.toList_toArray, List.append_assoc, List.take_append_of_le_length (by rw [List.length_take, Array.length_toList]; omega), List.take_take, Nat.min_self, hcur1, List.toList_toArray]
        have e1 : (List.take (0 + k * 3) cur.toList).length = k * 3 := by rw [List.length_take, Array.length_toList]; omega
        rw [List.take_append_of_le_length (by rw [List.length_append, e1, hlen]; omega), List.take_of_length_le (by rw [List.length_append, e1, hlen]; omega), erase_row, ← hnews, rowL_take l k (by omega), ← htk, List.take_take, Nat.zero_add]
        congr 2; omega
    have hW : Hid (W1 = w.drew.setCells g (0 + k * 3) news) := hW1
    obtain ⟨j, hj⟩ : ∃ j, j = k + 1 := ⟨_, rfl⟩
    rw [← hj] at hA s1
    rw [show (k : Int) + 1 = (j : Int) by omega]
    have hic : k ≤ cap := by omega
    have hjc : j ≤ cap := by omega
    have hkj : k < j := by omega
    have hne : ¬ k = j := by omega
    have hjn : j ≤ n := by omega
    obtain ⟨m, hm⟩ : ∃ m, m = k + (n - j) := ⟨_, rfl⟩
    have hm1 : n - 1 = m := by omega
    have hm2 : n - m = 1 := by omega
    rw [hm1] at hcl hfin ⊢
    rw [← hm2] at hcl
    have hmn : m < n := by omega
    have hroom : k + (n - j) ≤ cap := by omega
    have HM := Lib.hid hm
    clear hm hm1 hm2
    have HJ := Lib.hid hj
    clear hW1 hb1 hb2 hon hget hnews hlen hg hcs htk hsome hc1 hcur1 h h1 hn' hj
    have mixed : Try.prog.follows Departure.mixedOrders = true := by kernel_rfl
    go_enter Try.func94, Try.ntmps94
    go_wp2_with fail
    go_region_law_o (refine step_append_room rfl (.tmp 22) (.tmp 25) 97 rfl 105 i0 3 Try.underlying97 hi0 hz1 g 0 k cap (by simp [Act.eval, Act.put]) A (n - j) (cap - j) news (by simp [Act.eval, Act.put]) s1.out hsrc.out s2.out hroom s3.out ?_; rw [← hW.out, ← HM.out])
    go_wp2
    go_ret
    exact ⟨rfl, hfin.out⟩
end Go.Proofs.Ytnecbbflcpngcaa
