/- Writes, transactions and shapes as arguments of the laws. Conditions: no list is longer than a machine holds. -/
import Derived.Test.YtjippoejaieneaaGreatJbh
namespace Go.Proofs.YtjippoejaieneaaGreat
open Go.ChangeShapes Go.WideShapes Go.ChangeAt Go.RowKit Go.Deep
set_option linter.unusedVariables false

theorem Tryz.cellsOf84 : Tryz.prog.cellsOf 84 = 2 := by kernel_rfl
theorem Tryz.bytesOf84 : Tryz.prog.bytesOf 84 = 24 := by kernel_rfl
theorem Tryz.cellsOf24 : Tryz.prog.cellsOf 24 = 1 := by kernel_rfl
theorem Tryz.bytesOf24 : Tryz.prog.bytesOf 24 = 24 := by kernel_rfl
theorem Tryz.cellsOf23 : Tryz.prog.cellsOf 23 = 3 := by kernel_rfl
def wtOk (y : Wt) : Prop := In64 y.c ∧ y.d.size ≤ 140737488351232
/-- writes as they come -/
def Wrs (W : World) (v : Value) (l : List Wt) : Prop := WV W (fun k => k < W.heap.size) v l ∧ (∀ y ∈ l, wtOk y) ∧ l.length ≤ 5864062014806
def Txs (W : World) (v : Value) (l : List (Value × List Wt)) : Prop :=
  ∃ q cap, v = .slice q l.length cap ∧ l.length ≤ 5864062014806 ∧ ∀ i (hi : i < l.length), Wrs W l[i].1 l[i].2 ∧ ∃ b o, q = some ⟨b, o, none⟩ ∧ b < W.heap.size ∧ W.cell? ⟨b, o + i, none⟩ = some l[i].1
theorem Wrs.below {W W' : World} {v : Value} {l : List Wt} (h : Wrs W v l) (hb : Below W.heap.size W W') : Wrs W' v l := by
  obtain ⟨⟨q, cap, h1, h2, h3⟩, h4, h5⟩ := h
  refine ⟨⟨q, cap, h1, h2, fun i hi => ?_⟩, h4, h5⟩
  obtain ⟨b, o, e1, e2, e3, e4, e5⟩ := h3 i hi
  exact ⟨b, o, e1, Nat.lt_of_lt_of_le e3 hb.size, Nat.lt_of_lt_of_le e3 hb.size, cell_below e4 hb, cell_below e5 hb⟩
theorem Txs.below {W W' : World} {v : Value} {l : List (Value × List Wt)} (h : Txs W v l) (hb : Below W.heap.size W W') : Txs W' v l := by
  obtain ⟨q, cap, h1, h2, h3⟩ := h
  refine ⟨q, cap, h1, h2, fun i hi => ?_⟩
  obtain ⟨g0, b, o, e1, e2, e3⟩ := h3 i hi
  exact ⟨g0.below hb, b, o, e1, Nat.lt_of_lt_of_le e2 hb.size, cell_below e3 hb⟩
set_option maxRecDepth 100000 in
theorem trod_wt {H : Type} {enc : TypeId × Value → H} {W : World} {base : Nat} {held : Bool} {fuel : Nat} {cs : List Value} {x : DataW H × List MemPlace}
    (h : DataW.trod enc Tryz.prog W base (fun _ => true) held fuel 84 cs = some x) (hwt : ∀ u ∈ x.1.weights Tryz.prog 84, u ≤ reachBytes) : ∃ y : Wt, cs = [.int .i64 y.c, .string y.d] ∧ wtOk y := by
  obtain ⟨xs, n, hn, rfl, hl, hlen, hf⟩ := DataW.trod_struct Tryz.underlying84 h
  rw [Tryz.cellsOf84] at hl
  match cs, hl with
  | [c0, c1], _ =>
    match xs, hlen with
    | [y0, y1], _ =>
      have h0 : DataW.trod enc Tryz.prog W base (fun _ => true) held n 3 (([c0, c1].drop 0).take (Tryz.prog.cellsOf 3)) = [y0, y1][0]? := hf 0 _ rfl
      have h1 : DataW.trod enc Tryz.prog W base (fun _ => true) held n 9 (([c0, c1].drop 1).take (Tryz.prog.cellsOf 9)) = [y0, y1][1]? := hf 1 _ rfl
      rw [Tryz.cellsOf3] at h0
      rw [Tryz.cellsOf9] at h1
      simp at h0 h1
      obtain ⟨c, e0, _, w0⟩ := DataW.trod_int Tryz.underlying3 h0
      cases e0
      have hw1 : ∀ u ∈ y1.1.weights Tryz.prog 9, u ≤ reachBytes := fun u hu => hwt u (by
        rw [DataW.weights, Tryz.underlying84]
        exact DataW.weights_mem_each (j := 1) rfl rfl u hu)
      obtain ⟨s, e1, e1', _⟩ := DataW.trod_string Tryz.underlying9 h1
      cases e1
      have hs : s.size ≤ 140737488351232 := by
        rw [e1'] at hw1
        have := hw1 s.size (by simp [DataW.weights])
        simpa [reachBytes] using this
      exact ⟨⟨c, s⟩, rfl, wf_i64 w0, hs⟩
set_option maxRecDepth 100000 in
theorem trod_wts {H : Type} {enc : TypeId × Value → H} {W : World} {base : Nat} {held : Bool} {fuel : Nat} {c : Value} {x : DataW H × List MemPlace}
    (h : DataW.trod enc Tryz.prog W base (fun _ => true) held fuel 24 [c] = some x) (hwt : ∀ u ∈ x.1.weights Tryz.prog 24, u ≤ reachBytes) : ∃ l, Wrs W c l := by
  rcases DataW.trod_slice Tryz.underlying24 h with ⟨hcs, _⟩ | ⟨a, len, cap, elems, rest, m, hm, hcs, hx, hb, hlc, hcm, hel, hev, _, _⟩
  · simp at hcs
    subst hcs
    exact ⟨[], ⟨none, 0, rfl, Nat.le_refl _, fun i hi => absurd hi (Nat.not_lt_zero _)⟩, (fun y hy => nomatch hy), Nat.zero_le _⟩
  · simp at hcs
    subst hcs
    rw [hx, DataW.weights, Tryz.underlying24] at hwt
    have hfew : (elems.length + rest.length) * Tryz.prog.bytesOf 84 ≤ reachBytes := by
      have := hwt _ (List.mem_cons_self ..)
      simpa using this
    rw [Tryz.bytesOf84] at hfew
    have hR := reachBytes_lt
    have each : ∀ i, i < len → ∃ y : Wt, (W.cell? (a.add (i * 2)) = some (.int .i64 y.c) ∧ W.cell? (a.add (i * 2 + 1)) = some (.string y.d)) ∧ a.block < W.heap.size ∧ wtOk y := by
      intro i hi
      have he := hev i hi
      rw [Tryz.cellsOf84] at he
      obtain ⟨cs', hc', ht'⟩ := Option.bind_eq_some_iff.1 (he.trans (List.getElem?_eq_getElem (by omega)))
      obtain ⟨y, hcs', hok⟩ := trod_wt ht' (fun u hu => hwt u (by
        refine List.mem_cons_of_mem _ (List.mem_append_left _ (mem_all (d := (elems[i]'(by omega)).1) ?_ u hu))
        exact List.mem_map.2 ⟨_, List.getElem_mem (by omega), rfl⟩))
      obtain ⟨_, hlen', hcell⟩ := World.cells?_some hc'
      have c0 := hcell 0 (by omega)
      have c1 := hcell 1 (by omega)
      rw [add_add', hcs'] at c0 c1
      have c0' : W.cell? (a.add (i * 2)) = some (.int .i64 y.c) := c0
      refine ⟨y, ⟨c0', c1⟩, ?_, hok⟩
      have := World.block_lt_of_cell? W _ c0'
      rwa [add_block] at this
    haveI : Inhabited Wt := ⟨⟨0, ByteArray.empty⟩⟩
    obtain ⟨q, hq⟩ := choose_lt each
    have e1 : ((List.range len).map q).length = len := by simp
    refine ⟨(List.range len).map q, ⟨some a, cap, by rw [e1], by rw [e1]; exact hlc, fun i hi => ?_⟩, fun y hy => ?_, by rw [e1]; omega⟩
    · have hi' : i < len := by rw [e1] at hi; exact hi
      have e2 : ((List.range len).map q)[i] = q i := by simp
      rw [e2]
      obtain ⟨⟨g1, g2⟩, g3, g4⟩ := hq i hi'
      obtain ⟨b, o, spot⟩ := a
      have hspot : spot = none := by simpa [Addr.add] using World.cell?_spot (hq 0 (by omega)).1.1
      subst hspot
      refine ⟨b, o, rfl, g3, g3, ?_, ?_⟩
      · rw [addr_at] at g1; exact g1
      · rw [addr_at, ← Nat.add_assoc] at g2; exact g2
    · obtain ⟨i, hi, rfl⟩ := List.mem_map.1 hy
      exact (hq i (List.mem_range.1 hi)).2.2
set_option maxRecDepth 100000 in
theorem txs_of {H : Type} {enc : TypeId × Value → H} {W : World} {base : Nat} {v : Value} {d : DataW H} {p : List MemPlace} {held : Bool}
    (h : DataW.Trod enc Tryz.prog W base (fun _ => true) held 52 v d p) (hv : ∃ ao len cap, v = .slice ao len cap) (hwt : ∀ u ∈ d.weights Tryz.prog 52, u ≤ reachBytes) : ∃ l, Txs W v l := by
  obtain ⟨ao, len, cap, rfl⟩ := hv
  obtain ⟨fuel, hf⟩ := h
  rcases DataW.trod_slice Tryz.underlying52 hf with ⟨hcs, _⟩ | ⟨a, len', cap', elems, rest, m, hm, hcs, hx, hb, hlc, hcm, hel, hev, _, _⟩
  · simp [Value.cells] at hcs
    obtain ⟨rfl, rfl, rfl⟩ := hcs
    exact ⟨[], none, 0, rfl, Nat.zero_le _, fun i hi => absurd hi (Nat.not_lt_zero _)⟩
  · simp [Value.cells] at hcs
    obtain ⟨rfl, rfl, rfl⟩ := hcs
    have hx' : d = _ := congrArg Prod.fst hx
    rw [hx', DataW.weights, Tryz.underlying52] at hwt
    have hfew : (elems.length + rest.length) * Tryz.prog.bytesOf 24 ≤ reachBytes := by
      have := hwt _ (List.mem_cons_self ..)
      simpa using this
    rw [Tryz.bytesOf24] at hfew
    have hR := reachBytes_lt
    have each : ∀ i, i < len → ∃ y : Value × List Wt, W.cell? (a.add i) = some y.1 ∧ a.block < W.heap.size ∧ Wrs W y.1 y.2 := by
      intro i hi
      have he := hev i hi
      rw [Tryz.cellsOf24] at he
      obtain ⟨cs', hc', ht'⟩ := Option.bind_eq_some_iff.1 (he.trans (List.getElem?_eq_getElem (by omega)))
      obtain ⟨_, hlen', hcell⟩ := World.cells?_some hc'
      match cs', hlen' with
      | [c], _ =>
        obtain ⟨l, hl⟩ := trod_wts ht' (fun u hu => hwt u (by
          refine List.mem_cons_of_mem _ (List.mem_append_left _ (mem_all (d := (elems[i]'(by omega)).1) ?_ u hu))
          exact List.mem_map.2 ⟨_, List.getElem_mem (by omega), rfl⟩))
        have c0 := hcell 0 (by omega)
        rw [add_add', Nat.mul_one] at c0
        have c0' : W.cell? (a.add i) = some c := c0
        refine ⟨(c, l), c0', ?_, hl⟩
        have := World.block_lt_of_cell? W _ c0'
        rwa [add_block] at this
    haveI : Inhabited (Value × List Wt) := ⟨(.slice none 0 0, [])⟩
    obtain ⟨q, hq⟩ := choose_lt each
    have e1 : ((List.range len).map q).length = len := by simp
    refine ⟨(List.range len).map q, some a, cap, by rw [e1], by rw [e1]; omega, fun i hi => ?_⟩
    have hi' : i < len := by rw [e1] at hi; exact hi
    have e2 : ((List.range len).map q)[i] = q i := by simp
    rw [e2]
    obtain ⟨g1, g2, g3⟩ := hq i hi'
    obtain ⟨b, o, spot⟩ := a
    have hspot : spot = none := by simpa [Addr.add] using World.cell?_spot (hq 0 (by omega)).1
    subst hspot
    refine ⟨g3, b, o, rfl, g2, ?_⟩
    rw [addr_at] at g1
    exact g1
set_option maxRecDepth 100000 in
theorem shape_of {H : Type} {enc : TypeId × Value → H} {W : World} {base b0 : Nat} {v : Value} {d : DataW H} {p : List MemPlace} (hv : Value.okWide Tryz.prog W .any b0 23 v)
    (h : DataW.Trod enc Tryz.prog W base (fun _ => true) true 23 v d p) :
    ∃ f c m : Int, v = .agg #[.int .i64 f, .int .i64 c, .int .i64 m] ∧ In64 f ∧ In64 c ∧ In64 m := by
  simp only [Value.okWide, Tryz.underlying23] at hv
  obtain ⟨cs, rfl, hs, _⟩ := hv
  obtain ⟨fuel, hf⟩ := h
  obtain ⟨xs, n, hn, hx, hl, hlen, hf⟩ := DataW.trod_struct Tryz.underlying23 hf
  rw [Tryz.cellsOf23] at hl
  have hcs : (Value.agg cs).cells.toList = cs.toList := rfl
  rw [hcs] at hl hf
  match hc : cs.toList, hl with
  | [c0, c1, c2], _ =>
    rw [hc] at hf
    match xs, hlen with
    | [y0, y1, y2], _ =>
      have h0 : DataW.trod enc Tryz.prog W base (fun _ => true) true n 3 (([c0, c1, c2].drop 0).take (Tryz.prog.cellsOf 3)) = [y0, y1, y2][0]? := hf 0 _ rfl
      have h1 : DataW.trod enc Tryz.prog W base (fun _ => true) true n 3 (([c0, c1, c2].drop 1).take (Tryz.prog.cellsOf 3)) = [y0, y1, y2][1]? := hf 1 _ rfl
      have h2 : DataW.trod enc Tryz.prog W base (fun _ => true) true n 3 (([c0, c1, c2].drop 2).take (Tryz.prog.cellsOf 3)) = [y0, y1, y2][2]? := hf 2 _ rfl
      rw [Tryz.cellsOf3] at h0 h1 h2
      simp at h0 h1 h2
      obtain ⟨f, e0, _, w0⟩ := DataW.trod_int Tryz.underlying3 h0
      cases e0
      obtain ⟨c, e1, _, w1⟩ := DataW.trod_int Tryz.underlying3 h1
      cases e1
      obtain ⟨m, e2, _, w2⟩ := DataW.trod_int Tryz.underlying3 h2
      cases e2
      refine ⟨f, c, m, ?_, wf_i64 w0, wf_i64 w1, wf_i64 w2⟩
      rw [← Array.toArray_toList (xs := cs), hc]
end Go.Proofs.YtjippoejaieneaaGreat
