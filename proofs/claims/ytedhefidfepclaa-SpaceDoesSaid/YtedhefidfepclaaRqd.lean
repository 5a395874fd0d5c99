/- The document's space: another one. No conditions. -/
import Derived.Test.YtedhefidfepclaaRqc
namespace Go.Proofs.Ytedhefidfepclaa
open Go.RowKit Go.Maps
set_option linter.unusedVariables false
set_option linter.unusedSimpArgs false

theorem Try.info50 : (Try.prog.info? 50).map (fun i => (i.zero, i.size, i.bytes)) = some (some (.slice none 0 0), 1, 24) := by kernel_rfl
/-- append(T{}, x...): a new row with x's cells -/
theorem app_fresh {W : World} {base b : Nat} (sl e : TypeId) (i : TypeInfo) (z : Value) (bytes : Nat) (ht : Try.prog.underlying sl = some (.slice e)) (hi : Try.prog.info? e = some i) (hz : i.zero = some z) (hsize : i.size = 1) (hby : i.bytes = bytes) (hzs : z.cells.size = 1)
    (hb : W.heap[b]? = some (.cells #[] e (0, 0))) (hbase : base ≤ b) (g n c : Nat) (news : List Value) (hl : news.length = n) (hnews : ∀ (j : Nat) (u : Value), news[j]? = some u → W.cell? ⟨g, j, none⟩ = some u) (h1 : ∀ u ∈ news, u.oneCell' = true) (hn1 : 1 ≤ n) (hn : n * bytes ≤ 140737488355328) (hm : n ≤ maxLen) :
    ∃ r c' W', (Builtin.append_ #[sl, sl] sl #[.slice (some ⟨b, 0, none⟩) 0 0, .slice (some ⟨g, 0, none⟩) n c]).run Try.prog W = .ok (.slice (some ⟨r, 0, none⟩) n c') W' ∧ (∃ cur : Array Value, W'.heap[r]? = some (.cells cur e (0, 0)) ∧ cur.size = c' ∧ n ≤ c' ∧ ∀ (j : Nat) (u : Value), news[j]? = some u → cur[j]? = some u) ∧ W.grownBy W' (some b) ∧ base ≤ r := by
  have ho : W.ownsRow base e 1 (.slice (some ⟨b, 0, none⟩) 0 0) 0 [] := ⟨rfl, .inr ⟨b, 0, #[], rfl, hbase, hb, Nat.le_refl _, Nat.zero_le _, rfl, rfl⟩⟩
  have hlt := block_lt hb
  obtain ⟨v', W', hrun, hown, hgr, hnn, _⟩ := run_append_own_at (P := Try.prog) (w := W) base sl sl e i z 1 bytes ht hi hz hsize hby hzs (by decide) _ 0 [] ho ⟨g, 0, none⟩ n c news (by omega) (fun j u hu => by rw [addr_at, Nat.zero_add]; exact hnews j u hu) h1 (by omega) (by rw [Nat.zero_add]; exact hn) (by omega)
  rw [Nat.zero_add, List.nil_append] at hown
  rcases hown.2 with ⟨e1, _⟩ | ⟨g', c', cur, e1, hb1, hg', hc1, _, hcs, htk⟩
  · rw [e1] at hnn; simp at hnn
  · subst e1
    refine ⟨g', c', W', hrun, ⟨cur, hg', by omega, hc1, fun j u hu => ?_⟩, hgr, hb1⟩
    have hj : j < n := by have := (List.getElem?_eq_some_iff.1 hu).1; omega
    rw [← htk, List.getElem?_take, if_pos (by omega)] at hu
    rw [← Array.getElem?_toList]; exact hu
set_option maxRecDepth 20000 in
set_option maxHeartbeats 2000000 in
theorem mcopy_any (w : World) (p g cap F : Nat) (B : Bts) (h : IsR w p g cap F B) :
    Calls Try.prog 47 #[.pointer (some ⟨p, 0, none⟩)] w fun e w' => ∃ p' g' cap', e = .returned (.pointer (some ⟨p', 0, none⟩)) ∧ IsR w' p' g' cap' F B ∧ Below w.heap.size w w' ∧ w.heap.size ≤ p' ∧ w.heap.size ≤ g' := by
  obtain ⟨i0, hi, hz0, hz1, hz2⟩ := info_parts Try.info9
  obtain ⟨cur, hr, hcs, hc⟩ := h.row
  have c0 := h.cell
  have h160 := h.hi
  have h1 := h.lo
  obtain ⟨W, hW⟩ : ∃ W, W = w.alloc (.cells #[] 9) := ⟨_, rfl⟩
  have hb : Below w.heap.size w W := by rw [hW]; exact (Below.refl _ w).alloc (Nat.le_refl _) _
  obtain ⟨r, c', W', hrun, ⟨cur', q1, q2, q3, q4⟩, hgr, hbr⟩ := app_fresh (W := W) (base := w.heap.size) (b := w.heap.size) 45 9 i0 (.string ⟨#[]⟩) 16 Try.underlying45 hi hz0 hz1 hz2 rfl (by rw [hW]; exact block_new _ _) (Nat.le_refl _) g F cap ((List.range F).map fun j => .string (ofL (frameB B j))) (by simp) (by
    intro j u hu
    have hj : j < F := by have := (List.getElem?_eq_some_iff.1 hu).1; simpa using this
    rw [List.getElem?_map, List.getElem?_range hj] at hu
    rw [(h.below hb).frame j hj]; exact hu) (by intro u hu; obtain ⟨x, _, rfl⟩ := List.mem_map.1 hu; rfl) h1 (by omega) (by unfold maxLen; omega)
  have hb2 : Below w.heap.size w W' := hb.grown hgr hb.size (fun k e => by have := Option.some.inj e; omega)
  have H : Hid (∃ p' g' cap', (Ending.returned (.pointer (some ⟨W'.heap.size, 0, none⟩))) = .returned (.pointer (some ⟨p', 0, none⟩)) ∧ IsR (W'.alloc (.cells #[.slice (some ⟨r, 0, none⟩) F c'] 94)) p' g' cap' F B ∧ Below w.heap.size w (W'.alloc (.cells #[.slice (some ⟨r, 0, none⟩) F c'] 94)) ∧ w.heap.size ≤ p' ∧ w.heap.size ≤ g') := Lib.hid (by
    refine ⟨_, r, c', rfl, ⟨block_new _ _, ⟨cur', block_alloc q1 _, q2, fun j hj => q4 j _ (by rw [List.getElem?_map, List.getElem?_range hj]; rfl)⟩, h.len, q3, h.lo, h.hi⟩, hb2.alloc hb2.size _, hb2.size, hbr⟩)
  have x0 := (h.below hb).cell
  rw [hW] at hrun x0
  clear h hr hc hi hz0 hz1 hz2 hW hb q1 q2 q3 q4 hgr hbr hb2 h160 h1
  go_enter Try.func47, Try.ntmps47
  go_wp2_with (at_builtin; refine wpList_append_run rfl (.tmp 3) (.tmp 7) 45 rfl _ _ _ _ rfl rfl hrun ?_)
  go_ret
  exact H.out
end Go.Proofs.Ytedhefidfepclaa
