/- Rows of calls, extents, torn blocks and deeds as arguments of the laws. Conditions: no list is longer than a machine holds. -/
import Derived.Test.YtnecbbflcpngcaaOpa
namespace Go.Proofs.Ytnecbbflcpngcaa
open Go.ChangeShapes Go.WideShapes Go.ChangeAt Go.RowKit Go.Deep
set_option linter.unusedVariables false

theorem Try.cellsOf54 : Try.prog.cellsOf 54 = 6 := by kernel_rfl
theorem Try.bytesOf54 : Try.prog.bytesOf 54 = 72 := by kernel_rfl
theorem Try.cellsOf35 : Try.prog.cellsOf 35 = 1 := by kernel_rfl
theorem Try.cellsOf34 : Try.prog.cellsOf 34 = 3 := by kernel_rfl
theorem Try.cellsOf66 : Try.prog.cellsOf 66 = 5 := by kernel_rfl
theorem Try.cellsOf76 : Try.prog.cellsOf 76 = 2 := by kernel_rfl
structure Opr where
  on : Int
  kind : Int
  a : Int
  b : Int
  s : ByteArray
  cv : Value
  ch : List Int
def Opr.cells (o : Opr) : Array Value := #[.int .i64 o.on, .int .i64 o.kind, .int .i64 o.a, .int .i64 o.b, .string o.s, o.cv]
structure Opr.ok (o : Opr) (W : World) : Prop where
  on : In64 o.on
  kind : In64 o.kind
  a : In64 o.a
  b : In64 o.b
  s : o.s.size ≤ 140737488351232
  ch : ChOk W o.cv o.ch
theorem Opr.ok.below {W W' : World} {o : Opr} (h : o.ok W) (hb : Below W.heap.size W W') : o.ok W' := ⟨h.on, h.kind, h.a, h.b, h.s, h.ch.below hb⟩
def Script (W : World) (v : Value) (l : List Opr) : Prop :=
  ∃ q cap, v = .slice q l.length cap ∧ l.length ≤ cap ∧ l.length ≤ 2199023255552 ∧ ∀ i (hi : i < l.length), l[i].ok W ∧ ∃ b o, q = some ⟨b, o, none⟩ ∧ b < W.heap.size ∧ ∀ j u, (l[i].cells)[j]? = some u → W.cell? ⟨b, o + i * 6 + j, none⟩ = some u
theorem Script.below {W W' : World} {v : Value} {l : List Opr} (h : Script W v l) (hb : Below W.heap.size W W') : Script W' v l := by
  obtain ⟨q, cap, h1, h2, h3, h4⟩ := h
  refine ⟨q, cap, h1, h2, h3, fun i hi => ?_⟩
  obtain ⟨g1, b, o, g2, g3, g4⟩ := h4 i hi
  exact ⟨g1.below hb, b, o, g2, Nat.lt_of_lt_of_le g3 hb.size, fun j u hu => cell_below (g4 j u hu) hb⟩
set_option maxRecDepth 100000 in
theorem trod_op {H : Type} {enc : TypeId × Value → H} {W : World} {base : Nat} {held : Bool} {fuel : Nat} {cs : List Value} {x : DataW H × List MemPlace}
    (h : DataW.trod enc Try.prog W base (fun _ => true) held fuel 54 cs = some x) (hwt : ∀ u ∈ x.1.weights Try.prog 54, u ≤ reachBytes) : ∃ o : Opr, cs = o.cells.toList ∧ o.ok W := by
  obtain ⟨xs, n, hn, rfl, hl, hlen, hf⟩ := DataW.trod_struct Try.underlying54 h
  rw [Try.cellsOf54] at hl
  match cs, hl with
  | [c0, c1, c2, c3, c4, c5], _ =>
    match xs, hlen with
    | [y0, y1, y2, y3, y4, y5], _ =>
      have h0 : DataW.trod enc Try.prog W base (fun _ => true) held n 3 (([c0, c1, c2, c3, c4, c5].drop 0).take (Try.prog.cellsOf 3)) = [y0, y1, y2, y3, y4, y5][0]? := hf 0 _ rfl
      have h1 : DataW.trod enc Try.prog W base (fun _ => true) held n 3 (([c0, c1, c2, c3, c4, c5].drop 1).take (Try.prog.cellsOf 3)) = [y0, y1, y2, y3, y4, y5][1]? := hf 1 _ rfl
      have h2 : DataW.trod enc Try.prog W base (fun _ => true) held n 3 (([c0, c1, c2, c3, c4, c5].drop 2).take (Try.prog.cellsOf 3)) = [y0, y1, y2, y3, y4, y5][2]? := hf 2 _ rfl
      have h3 : DataW.trod enc Try.prog W base (fun _ => true) held n 3 (([c0, c1, c2, c3, c4, c5].drop 3).take (Try.prog.cellsOf 3)) = [y0, y1, y2, y3, y4, y5][3]? := hf 3 _ rfl
      have h4 : DataW.trod enc Try.prog W base (fun _ => true) held n 9 (([c0, c1, c2, c3, c4, c5].drop 4).take (Try.prog.cellsOf 9)) = [y0, y1, y2, y3, y4, y5][4]? := hf 4 _ rfl
      have h5 : DataW.trod enc Try.prog W base (fun _ => true) held n 52 (([c0, c1, c2, c3, c4, c5].drop 5).take (Try.prog.cellsOf 52)) = [y0, y1, y2, y3, y4, y5][5]? := hf 5 _ rfl
      rw [Try.cellsOf3] at h0 h1 h2 h3
      rw [Try.cellsOf9] at h4
      rw [Try.cellsOf52] at h5
      simp at h0 h1 h2 h3 h4 h5
      obtain ⟨on, e0, _, w0⟩ := DataW.trod_int Try.underlying3 h0
      cases e0
      obtain ⟨kind, e1, _, w1⟩ := DataW.trod_int Try.underlying3 h1
      cases e1
      obtain ⟨a, e2, _, w2⟩ := DataW.trod_int Try.underlying3 h2
      cases e2
      obtain ⟨b, e3, _, w3⟩ := DataW.trod_int Try.underlying3 h3
      cases e3
      have hw4 : ∀ u ∈ y4.1.weights Try.prog 9, u ≤ reachBytes := fun u hu => hwt u (by
        rw [DataW.weights, Try.underlying54]
        exact DataW.weights_mem_each (j := 4) rfl rfl u hu)
      obtain ⟨s, e4, e4', _⟩ := DataW.trod_string Try.underlying9 h4
      cases e4
      have hw5 : ∀ u ∈ y5.1.weights Try.prog 52, u ≤ reachBytes := fun u hu => hwt u (by
        rw [DataW.weights, Try.underlying54]
        exact DataW.weights_mem_each (j := 5) rfl rfl u hu)
      obtain ⟨ch, hch⟩ := trod_ints h5 hw5
      have hs : s.size ≤ 140737488351232 := by
        rw [e4'] at hw4
        have := hw4 s.size (by simp [DataW.weights])
        simpa [reachBytes] using this
      exact ⟨⟨on, kind, a, b, s, c5, ch⟩, rfl, wf_i64 w0, wf_i64 w1, wf_i64 w2, wf_i64 w3, hs, hch⟩
set_option maxRecDepth 100000 in
theorem script_of {H : Type} {enc : TypeId × Value → H} {W : World} {base : Nat} {v : Value} {d : DataW H} {p : List MemPlace} {held : Bool}
    (h : DataW.Trod enc Try.prog W base (fun _ => true) held 35 v d p) (hv : ∃ ao len cap, v = .slice ao len cap) (hwt : ∀ u ∈ d.weights Try.prog 35, u ≤ reachBytes) : ∃ l, Script W v l := by
  obtain ⟨ao, len, cap, rfl⟩ := hv
  obtain ⟨fuel, hf⟩ := h
  rcases DataW.trod_slice Try.underlying35 hf with ⟨hcs, _⟩ | ⟨a, len', cap', elems, rest, m, hm, hcs, hx, hb, hlc, hcm, hel, hev, _, _⟩
  · simp [Value.cells] at hcs
    obtain ⟨rfl, rfl, rfl⟩ := hcs
    exact ⟨[], none, 0, rfl, Nat.le_refl _, Nat.zero_le _, fun i hi => absurd hi (Nat.not_lt_zero _)⟩
  · simp [Value.cells] at hcs
    obtain ⟨rfl, rfl, rfl⟩ := hcs
    have hx' : d = _ := congrArg Prod.fst hx
    rw [hx', DataW.weights, Try.underlying35] at hwt
    have hfew : (elems.length + rest.length) * Try.prog.bytesOf 54 ≤ reachBytes := by
      have := hwt _ (List.mem_cons_self ..)
      simpa using this
    rw [Try.bytesOf54] at hfew
    have hR := reachBytes_lt
    have each : ∀ i, i < len → ∃ o : Opr, (∀ j u, (o.cells)[j]? = some u → W.cell? (a.add (i * 6 + j)) = some u) ∧ a.block < W.heap.size ∧ o.ok W := by
      intro i hi
      have he := hev i hi
      rw [Try.cellsOf54] at he
      obtain ⟨cs', hc', ht'⟩ := Option.bind_eq_some_iff.1 (he.trans (List.getElem?_eq_getElem (by omega)))
      obtain ⟨o, hcs', hok⟩ := trod_op ht' (fun u hu => hwt u (by
        refine List.mem_cons_of_mem _ (List.mem_append_left _ (mem_all (d := (elems[i]'(by omega)).1) ?_ u hu))
        exact List.mem_map.2 ⟨_, List.getElem_mem (by omega), rfl⟩))
      obtain ⟨_, hlen', hcell⟩ := World.cells?_some hc'
      refine ⟨o, fun j u hu => ?_, ?_, hok⟩
      · have hj : j < 6 := (Array.getElem?_eq_some_iff.1 hu).1
        have := hcell j hj
        rw [add_add'] at this
        rw [this, hcs']
        simpa using hu
      · have := hcell 0 (by omega)
        obtain ⟨c, hc0⟩ : ∃ c, cs'[0]? = some c := ⟨cs'[0]'(by omega), List.getElem?_eq_getElem (by omega)⟩
        rw [hc0] at this
        have := World.block_lt_of_cell? W _ this
        rwa [add_block, add_block] at this
    haveI : Inhabited Opr := ⟨⟨0, 0, 0, 0, ByteArray.empty, .slice none 0 0, []⟩⟩
    obtain ⟨q, hq⟩ := choose_lt each
    have e1 : ((List.range len).map q).length = len := by simp
    refine ⟨(List.range len).map q, some a, cap, by rw [e1], by rw [e1]; exact hlc, by rw [e1]; omega, fun i hi => ?_⟩
    have hi' : i < len := by rw [e1] at hi; exact hi
    have e2 : ((List.range len).map q)[i] = q i := by simp
    rw [e2]
    obtain ⟨g1, g2, g3⟩ := hq i hi'
    obtain ⟨b, o, spot⟩ := a
    have hz := (hq 0 (by omega)).1 0 _ rfl
    have hspot : spot = none := by simpa [Addr.add] using World.cell?_spot hz
    subst hspot
    refine ⟨g3, b, o, rfl, g2, fun j u hu => ?_⟩
    have := g1 j u hu
    rw [addr_at, ← Nat.add_assoc] at this
    exact this
set_option maxRecDepth 100000 in
theorem ext_of {H : Type} {enc : TypeId × Value → H} {W : World} {base b0 : Nat} {v : Value} {d : DataW H} {p : List MemPlace} (hv : Value.okWide Try.prog W .any b0 34 v)
    (h : DataW.Trod enc Try.prog W base (fun _ => true) true 34 v d p) :
    ∃ f c m : Int, v = .agg #[.int .i64 f, .int .i64 c, .int .i64 m] ∧ In64 f ∧ In64 c ∧ In64 m := by
  simp only [Value.okWide, Try.underlying34] at hv
  obtain ⟨cs, rfl, hs, _⟩ := hv
  obtain ⟨fuel, hf⟩ := h
  obtain ⟨xs, n, hn, hx, hl, hlen, hf⟩ := DataW.trod_struct Try.underlying34 hf
  rw [Try.cellsOf34] at hl
  have hcs : (Value.agg cs).cells.toList = cs.toList := rfl
  rw [hcs] at hl hf
  match hc : cs.toList, hl with
  | [c0, c1, c2], _ =>
    rw [hc] at hf
    match xs, hlen with
    | [y0, y1, y2], _ =>
      have h0 : DataW.trod enc Try.prog W base (fun _ => true) true n 3 (([c0, c1, c2].drop 0).take (Try.prog.cellsOf 3)) = [y0, y1, y2][0]? := hf 0 _ rfl
      have h1 : DataW.trod enc Try.prog W base (fun _ => true) true n 3 (([c0, c1, c2].drop 1).take (Try.prog.cellsOf 3)) = [y0, y1, y2][1]? := hf 1 _ rfl
      have h2 : DataW.trod enc Try.prog W base (fun _ => true) true n 3 (([c0, c1, c2].drop 2).take (Try.prog.cellsOf 3)) = [y0, y1, y2][2]? := hf 2 _ rfl
      rw [Try.cellsOf3] at h0 h1 h2
      simp at h0 h1 h2
      obtain ⟨f, e0, _, w0⟩ := DataW.trod_int Try.underlying3 h0
      cases e0
      obtain ⟨c, e1, _, w1⟩ := DataW.trod_int Try.underlying3 h1
      cases e1
      obtain ⟨m, e2, _, w2⟩ := DataW.trod_int Try.underlying3 h2
      cases e2
      refine ⟨f, c, m, ?_, wf_i64 w0, wf_i64 w1, wf_i64 w2⟩
      rw [← Array.toArray_toList (xs := cs), hc]
set_option maxRecDepth 100000 in
theorem torn_of {H : Type} {enc : TypeId × Value → H} {W : World} {base b0 : Nat} {v : Value} {d : DataW H} {p : List MemPlace} (hv : Value.okWide Try.prog W .any b0 66 v)
    (h : DataW.Trod enc Try.prog W base (fun _ => true) true 66 v d p) (hwt : ∀ u ∈ d.weights Try.prog 66, u ≤ reachBytes) :
    ∃ (a b : ByteArray) (o n c : Int), v = .agg #[.string a, .string b, .int .i64 o, .int .i64 n, .int .i64 c] ∧ a.size ≤ 140737488351232 ∧ b.size ≤ 140737488351232 ∧ In64 o ∧ In64 n ∧ In64 c := by
  simp only [Value.okWide, Try.underlying66] at hv
  obtain ⟨cs, rfl, hs, _⟩ := hv
  obtain ⟨fuel, hf⟩ := h
  obtain ⟨xs, n, hn, hx, hl, hlen, hf⟩ := DataW.trod_struct Try.underlying66 hf
  rw [Try.cellsOf66] at hl
  have hcs : (Value.agg cs).cells.toList = cs.toList := rfl
  rw [hcs] at hl hf
  match hc : cs.toList, hl with
  | [c0, c1, c2, c3, c4], _ =>
    rw [hc] at hf
    match xs, hlen with
    | [y0, y1, y2, y3, y4], _ =>
      have h0 : DataW.trod enc Try.prog W base (fun _ => true) true n 9 (([c0, c1, c2, c3, c4].drop 0).take (Try.prog.cellsOf 9)) = [y0, y1, y2, y3, y4][0]? := hf 0 _ rfl
      have h1 : DataW.trod enc Try.prog W base (fun _ => true) true n 9 (([c0, c1, c2, c3, c4].drop 1).take (Try.prog.cellsOf 9)) = [y0, y1, y2, y3, y4][1]? := hf 1 _ rfl
      have h2 : DataW.trod enc Try.prog W base (fun _ => true) true n 3 (([c0, c1, c2, c3, c4].drop 2).take (Try.prog.cellsOf 3)) = [y0, y1, y2, y3, y4][2]? := hf 2 _ rfl
      have h3 : DataW.trod enc Try.prog W base (fun _ => true) true n 3 (([c0, c1, c2, c3, c4].drop 3).take (Try.prog.cellsOf 3)) = [y0, y1, y2, y3, y4][3]? := hf 3 _ rfl
      have h4 : DataW.trod enc Try.prog W base (fun _ => true) true n 3 (([c0, c1, c2, c3, c4].drop 4).take (Try.prog.cellsOf 3)) = [y0, y1, y2, y3, y4][4]? := hf 4 _ rfl
      rw [Try.cellsOf9] at h0 h1
      rw [Try.cellsOf3] at h2 h3 h4
      simp at h0 h1 h2 h3 h4
      have hd : d = _ := congrArg Prod.fst hx
      have hw0 : ∀ u ∈ y0.1.weights Try.prog 9, u ≤ reachBytes := fun u hu => hwt u (by
        rw [hd, DataW.weights, Try.underlying66]
        exact DataW.weights_mem_each (j := 0) rfl rfl u hu)
      have hw1 : ∀ u ∈ y1.1.weights Try.prog 9, u ≤ reachBytes := fun u hu => hwt u (by
        rw [hd, DataW.weights, Try.underlying66]
        exact DataW.weights_mem_each (j := 1) rfl rfl u hu)
      obtain ⟨a, e0, e0', _⟩ := DataW.trod_string Try.underlying9 h0
      cases e0
      obtain ⟨b, e1, e1', _⟩ := DataW.trod_string Try.underlying9 h1
      cases e1
      obtain ⟨o, e2, _, w2⟩ := DataW.trod_int Try.underlying3 h2
      cases e2
      obtain ⟨nn, e3, _, w3⟩ := DataW.trod_int Try.underlying3 h3
      cases e3
      obtain ⟨c, e4, _, w4⟩ := DataW.trod_int Try.underlying3 h4
      cases e4
      have hs0 : a.size ≤ 140737488351232 := by
        rw [e0'] at hw0
        have := hw0 a.size (by simp [DataW.weights])
        simpa [reachBytes] using this
      have hs1 : b.size ≤ 140737488351232 := by
        rw [e1'] at hw1
        have := hw1 b.size (by simp [DataW.weights])
        simpa [reachBytes] using this
      refine ⟨a, b, o, nn, c, ?_, hs0, hs1, wf_i64 w2, wf_i64 w3, wf_i64 w4⟩
      rw [← Array.toArray_toList (xs := cs), hc]
set_option maxRecDepth 100000 in
theorem deeds_of {H : Type} {enc : TypeId × Value → H} {W : World} {base b0 : Nat} {v : Value} {d : DataW H} {p : List MemPlace} (hv : Value.okWide Try.prog W .any b0 76 v)
    (h : DataW.Trod enc Try.prog W base (fun _ => true) true 76 v d p) (hwt : ∀ u ∈ d.weights Try.prog 76, u ≤ reachBytes) :
    ∃ (va vb : Value) (l : List Opr) (ch : List Int), v = .agg #[va, vb] ∧ Script W va l ∧ ChOk W vb ch := by
  simp only [Value.okWide, Try.underlying76] at hv
  obtain ⟨cs, rfl, hs, hov⟩ := hv
  obtain ⟨fuel, hf⟩ := h
  obtain ⟨xs, n, hn, hx, hl, hlen, hf⟩ := DataW.trod_struct Try.underlying76 hf
  rw [Try.cellsOf76] at hl
  have hcs : (Value.agg cs).cells.toList = cs.toList := rfl
  rw [hcs] at hl hf
  match hc : cs.toList, hl with
  | [c0, c1], _ =>
    rw [hc] at hf
    match xs, hlen with
    | [y0, y1], _ =>
      have h0 : DataW.trod enc Try.prog W base (fun _ => true) true n 35 (([c0, c1].drop 0).take (Try.prog.cellsOf 35)) = [y0, y1][0]? := hf 0 _ rfl
      have h1 : DataW.trod enc Try.prog W base (fun _ => true) true n 52 (([c0, c1].drop 1).take (Try.prog.cellsOf 52)) = [y0, y1][1]? := hf 1 _ rfl
      rw [Try.cellsOf35] at h0
      rw [Try.cellsOf52] at h1
      simp at h0 h1
      have hd : d = _ := congrArg Prod.fst hx
      have hw0 : ∀ u ∈ y0.1.weights Try.prog 35, u ≤ reachBytes := fun u hu => hwt u (by
        rw [hd, DataW.weights, Try.underlying76]
        exact DataW.weights_mem_each (j := 0) rfl rfl u hu)
      have hw1 : ∀ u ∈ y1.1.weights Try.prog 52, u ≤ reachBytes := fun u hu => hwt u (by
        rw [hd, DataW.weights, Try.underlying76]
        exact DataW.weights_mem_each (j := 1) rfl rfl u hu)
      obtain ⟨ch, hch⟩ := trod_ints h1 hw1
      obtain ⟨ao, len, cap, e0⟩ : ∃ ao len cap, c0 = .slice ao len cap := by
        rcases DataW.trod_slice Try.underlying35 h0 with ⟨hcs, _⟩ | ⟨a, len', cap', elems, rest, m, hm, hcs, _⟩
        · simp at hcs; exact ⟨_, _, _, hcs⟩
        · simp at hcs; exact ⟨_, _, _, hcs⟩
      obtain ⟨l, hl0⟩ := script_of (v := c0) (d := y0.1) (p := y0.2) (held := true) (enc := enc) (base := base) ⟨n, by rw [e0] at h0 ⊢; simpa [Value.cells] using h0⟩ ⟨ao, len, cap, e0⟩ hw0
      refine ⟨c0, c1, l, ch, ?_, hl0, hch⟩
      rw [← Array.toArray_toList (xs := cs), hc]
end Go.Proofs.Ytnecbbflcpngcaa
