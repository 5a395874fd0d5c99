/- Calls and choices that came in, as they lie in memory. Conditions: no list is longer than a machine holds. -/
import Derived.Test.YtcmhpkeighenaaaWai
import Derived.ProofKit
import Derived.OpenShut
import Derived.ShutString
import Derived.ChangeOld
import Derived.SizedLaws
import Derived.ChangeSlices
import Derived.Deep.Slices
namespace Go.Proofs.Ytcmhpkeighenaaa
open Go.ChangeShapes Go.WideShapes Go.ChangeAt Go.RowKit Go.Deep
set_option linter.unusedVariables false

theorem Try.cellsOf3 : Try.prog.cellsOf 3 = 1 := by kernel_rfl
theorem Try.cellsOf5 : Try.prog.cellsOf 5 = 1 := by kernel_rfl
theorem Try.cellsOf9 : Try.prog.cellsOf 9 = 1 := by kernel_rfl
theorem Try.cellsOf33 : Try.prog.cellsOf 33 = 1 := by kernel_rfl
theorem Try.cellsOf35 : Try.prog.cellsOf 35 = 7 := by kernel_rfl
theorem Try.cellsOf49 : Try.prog.cellsOf 49 = 2 := by kernel_rfl
theorem Try.bytesOf3 : Try.prog.bytesOf 3 = 8 := by kernel_rfl
theorem Try.bytesOf35 : Try.prog.bytesOf 35 = 80 := by kernel_rfl
theorem mem_all {H : Type} {P : Program} {e : TypeId} : ∀ {ds : List (DataW H)} {d : DataW H}, d ∈ ds → ∀ n ∈ d.weights P e, n ∈ DataW.weightsAll P e ds
  | [], _, h, _, _ => by cases h
  | x :: r, d, h, n, hn => by
    rw [DataW.weightsAll, List.mem_append]
    rcases List.mem_cons.1 h with rfl | h
    · exact .inl hn
    · exact .inr (mem_all h n hn)
theorem add_block (a : Addr) (k : Nat) : (a.add k).block = a.block := by unfold Addr.add; split <;> rfl
theorem add_add' (a : Addr) (i j : Nat) : (a.add i).add j = a.add (i + j) := by
  unfold Addr.add
  by_cases hi : i = 0
  · subst hi; simp
  · by_cases hj : j = 0
    · subst hj; simp
    · rw [if_neg hi, if_neg hj, if_neg (by omega)]; simp [Nat.add_assoc]
def In64 (x : Int) : Prop := -9223372036854775808 ≤ x ∧ x < 9223372036854775808
theorem wf_i64 {a : Int} (h : (Lit.int IntKind.i64 a).wf = true) : In64 a := by
  simp [Lit.wf, IntKind.max, IntKind.min, IntKind.signed, IntKind.bits] at h
  unfold In64; omega
theorem wf_u8 {a : Int} (h : (Lit.int IntKind.u8 a).wf = true) : 0 ≤ a ∧ a < 256 := by
  simp [Lit.wf, IntKind.max, IntKind.min, IntKind.signed, IntKind.bits] at h
  omega
/-- choices that came in -/
def ChOk (W : World) (v : Value) (ch : List Int) : Prop := CV W (fun b => b < W.heap.size) v ch ∧ (∀ x ∈ ch, In64 x) ∧ ch.length ≤ 17592186044416
theorem ChOk.below {W W' : World} {v : Value} {ch : List Int} (h : ChOk W v ch) (hb : Below W.heap.size W W') : ChOk W' v ch :=
  ⟨(h.1.below hb).mono (fun k hk => Nat.lt_of_lt_of_le hk hb.size), h.2⟩
set_option maxRecDepth 100000 in
theorem trod_ints {H : Type} {enc : TypeId × Value → H} {W : World} {base : Nat} {held : Bool} {fuel : Nat} {c : Value} {x : DataW H × List MemPlace}
    (h : DataW.trod enc Try.prog W base (fun _ => true) held fuel 33 [c] = some x) (hwt : ∀ u ∈ x.1.weights Try.prog 33, u ≤ reachBytes) : ∃ ch, ChOk W c ch := by
  rcases DataW.trod_slice Try.underlying33 h with ⟨hcs, _⟩ | ⟨a, len, cap, elems, rest, m, hm, hcs, hx, hb, hlc, hcm, hel, hev, _, _⟩
  · simp at hcs
    subst hcs
    exact ⟨[], CV.nil _ _, (fun x hx => nomatch hx), Nat.zero_le _⟩
  · simp at hcs
    subst hcs
    rw [hx, DataW.weights, Try.underlying33] at hwt
    have hfew : (elems.length + rest.length) * Try.prog.bytesOf 3 ≤ reachBytes := by
      have := hwt _ (List.mem_cons_self ..)
      simpa using this
    rw [Try.bytesOf3] at hfew
    have hR := reachBytes_lt
    have each : ∀ i, i < len → ∃ q : Int, W.cell? (a.add i) = some (.int .i64 q) ∧ In64 q := by
      intro i hi
      have he := hev i hi
      rw [Try.cellsOf3] at he
      obtain ⟨cs', hc', ht'⟩ := Option.bind_eq_some_iff.1 (he.trans (List.getElem?_eq_getElem (by omega)))
      obtain ⟨_, hlen', hcell⟩ := World.cells?_some hc'
      obtain ⟨q, e0, _, w0⟩ := DataW.trod_int Try.underlying3 ht'
      subst e0
      have := hcell 0 (by omega)
      simp [add_add'] at this
      exact ⟨q, this, wf_i64 w0⟩
    obtain ⟨q, hq⟩ := choose_lt each
    have e1 : ((List.range len).map q).length = len := by simp
    refine ⟨(List.range len).map q, ⟨some a, cap, by rw [e1], by rw [e1]; exact hlc, fun hne => ?_⟩, fun x hx => ?_, by rw [e1]; omega⟩
    · have hl0 : 0 < len := by
        rcases Nat.eq_zero_or_pos len with e | e
        · subst e; simp at hne
        · exact e
      obtain ⟨b, o, spot⟩ := a
      have hz := (hq 0 hl0).1
      have hspot : spot = none := by simpa [Addr.add] using World.cell?_spot hz
      subst hspot
      refine ⟨b, o, rfl, ?_, ?_, fun j hj => ?_⟩
      · exact World.block_lt_of_cell? W _ hz
      · exact World.block_lt_of_cell? W _ hz
      · rw [e1] at hj
        have := (hq j hj).1
        rw [addr_at] at this
        rw [this]
        simp [List.getD, hj]
    · obtain ⟨i, hi, rfl⟩ := List.mem_map.1 hx
      exact (hq i (List.mem_range.1 hi)).2
/-- a call that came in -/
structure Opr where
  on : Int
  kind : Int
  a : Int
  b : Int
  c : Int
  s : ByteArray
  cv : Value
  ch : List Int
def Opr.cells (o : Opr) : Array Value := #[.int .i64 o.on, .int .i64 o.kind, .int .i64 o.a, .int .i64 o.b, .int .u8 o.c, .string o.s, o.cv]
structure Opr.ok (o : Opr) (W : World) : Prop where
  on : In64 o.on
  kind : In64 o.kind
  a : In64 o.a
  b : In64 o.b
  c : 0 ≤ o.c ∧ o.c < 256
  s : o.s.size ≤ 140737488351232
  ch : ChOk W o.cv o.ch
theorem Opr.ok.below {W W' : World} {o : Opr} (h : o.ok W) (hb : Below W.heap.size W W') : o.ok W' := ⟨h.on, h.kind, h.a, h.b, h.c, h.s, h.ch.below hb⟩
def Script (W : World) (v : Value) (l : List Opr) : Prop :=
  ∃ q cap, v = .slice q l.length cap ∧ l.length ≤ cap ∧ l.length ≤ 17592186044416 ∧ ∀ i (hi : i < l.length), l[i].ok W ∧ ∃ b o, q = some ⟨b, o, none⟩ ∧ b < W.heap.size ∧ ∀ j u, (l[i].cells)[j]? = some u → W.cell? ⟨b, o + i * 7 + j, none⟩ = some u
theorem Script.below {W W' : World} {v : Value} {l : List Opr} (h : Script W v l) (hb : Below W.heap.size W W') : Script W' v l := by
  obtain ⟨q, cap, h1, h2, h3, h4⟩ := h
  refine ⟨q, cap, h1, h2, h3, fun i hi => ?_⟩
  obtain ⟨g1, b, o, g2, g3, g4⟩ := h4 i hi
  exact ⟨g1.below hb, b, o, g2, Nat.lt_of_lt_of_le g3 hb.size, fun j u hu => cell_below (g4 j u hu) hb⟩
set_option maxRecDepth 100000 in
theorem trod_op {H : Type} {enc : TypeId × Value → H} {W : World} {base : Nat} {held : Bool} {fuel : Nat} {cs : List Value} {x : DataW H × List MemPlace}
    (h : DataW.trod enc Try.prog W base (fun _ => true) held fuel 35 cs = some x) (hwt : ∀ u ∈ x.1.weights Try.prog 35, u ≤ reachBytes) : ∃ o : Opr, cs = o.cells.toList ∧ o.ok W := by
  obtain ⟨xs, n, hn, rfl, hl, hlen, hf⟩ := DataW.trod_struct Try.underlying35 h
  rw [Try.cellsOf35] at hl
  match cs, hl with
  | [c0, c1, c2, c3, c4, c5, c6], _ =>
    match xs, hlen with
    | [y0, y1, y2, y3, y4, y5, y6], _ =>
      have h0 : DataW.trod enc Try.prog W base (fun _ => true) held n 3 (([c0, c1, c2, c3, c4, c5, c6].drop 0).take (Try.prog.cellsOf 3)) = [y0, y1, y2, y3, y4, y5, y6][0]? := hf 0 _ rfl
      have h1 : DataW.trod enc Try.prog W base (fun _ => true) held n 3 (([c0, c1, c2, c3, c4, c5, c6].drop 1).take (Try.prog.cellsOf 3)) = [y0, y1, y2, y3, y4, y5, y6][1]? := hf 1 _ rfl
      have h2 : DataW.trod enc Try.prog W base (fun _ => true) held n 3 (([c0, c1, c2, c3, c4, c5, c6].drop 2).take (Try.prog.cellsOf 3)) = [y0, y1, y2, y3, y4, y5, y6][2]? := hf 2 _ rfl
      have h3 : DataW.trod enc Try.prog W base (fun _ => true) held n 3 (([c0, c1, c2, c3, c4, c5, c6].drop 3).take (Try.prog.cellsOf 3)) = [y0, y1, y2, y3, y4, y5, y6][3]? := hf 3 _ rfl
      have h4 : DataW.trod enc Try.prog W base (fun _ => true) held n 5 (([c0, c1, c2, c3, c4, c5, c6].drop 4).take (Try.prog.cellsOf 5)) = [y0, y1, y2, y3, y4, y5, y6][4]? := hf 4 _ rfl
      have h5 : DataW.trod enc Try.prog W base (fun _ => true) held n 9 (([c0, c1, c2, c3, c4, c5, c6].drop 5).take (Try.prog.cellsOf 9)) = [y0, y1, y2, y3, y4, y5, y6][5]? := hf 5 _ rfl
      have h6 : DataW.trod enc Try.prog W base (fun _ => true) held n 33 (([c0, c1, c2, c3, c4, c5, c6].drop 6).take (Try.prog.cellsOf 33)) = [y0, y1, y2, y3, y4, y5, y6][6]? := hf 6 _ rfl
      rw [Try.cellsOf3] at h0 h1 h2 h3
      rw [Try.cellsOf5] at h4
      rw [Try.cellsOf9] at h5
      rw [Try.cellsOf33] at h6
      simp at h0 h1 h2 h3 h4 h5 h6
      obtain ⟨on, e0, _, w0⟩ := DataW.trod_int Try.underlying3 h0
      cases e0
      obtain ⟨kind, e1, _, w1⟩ := DataW.trod_int Try.underlying3 h1
      cases e1
      obtain ⟨a, e2, _, w2⟩ := DataW.trod_int Try.underlying3 h2
      cases e2
      obtain ⟨b, e3, _, w3⟩ := DataW.trod_int Try.underlying3 h3
      cases e3
      obtain ⟨c, e4, _, w4⟩ := DataW.trod_int Try.underlying5 h4
      cases e4
      have hw5 : ∀ u ∈ y5.1.weights Try.prog 9, u ≤ reachBytes := fun u hu => hwt u (by
        rw [DataW.weights, Try.underlying35]
        exact DataW.weights_mem_each (j := 5) rfl rfl u hu)
      obtain ⟨s, e5, e5', _⟩ := DataW.trod_string Try.underlying9 h5
      cases e5
      have hw6 : ∀ u ∈ y6.1.weights Try.prog 33, u ≤ reachBytes := fun u hu => hwt u (by
        rw [DataW.weights, Try.underlying35]
        exact DataW.weights_mem_each (j := 6) rfl rfl u hu)
      obtain ⟨ch, hch⟩ := trod_ints h6 hw6
      have hs : s.size ≤ 140737488351232 := by
        rw [e5'] at hw5
        have := hw5 s.size (by simp [DataW.weights])
        simpa [reachBytes] using this
      exact ⟨⟨on, kind, a, b, c, s, c6, ch⟩, rfl, wf_i64 w0, wf_i64 w1, wf_i64 w2, wf_i64 w3, wf_u8 w4, hs, hch⟩
set_option maxRecDepth 100000 in
theorem script_of {H : Type} {enc : TypeId × Value → H} {W : World} {base : Nat} {v : Value} {d : DataW H} {p : List MemPlace} {held : Bool}
    (h : DataW.Trod enc Try.prog W base (fun _ => true) held 22 v d p) (hv : ∃ ao len cap, v = .slice ao len cap) (hwt : ∀ u ∈ d.weights Try.prog 22, u ≤ reachBytes) : ∃ l, Script W v l := by
  obtain ⟨ao, len, cap, rfl⟩ := hv
  obtain ⟨fuel, hf⟩ := h
  rcases DataW.trod_slice Try.underlying22 hf with ⟨hcs, _⟩ | ⟨a, len', cap', elems, rest, m, hm, hcs, hx, hb, hlc, hcm, hel, hev, _, _⟩
  · simp [Value.cells] at hcs
    obtain ⟨rfl, rfl, rfl⟩ := hcs
    exact ⟨[], none, 0, rfl, Nat.le_refl _, Nat.zero_le _, fun i hi => absurd hi (Nat.not_lt_zero _)⟩
  · simp [Value.cells] at hcs
    obtain ⟨rfl, rfl, rfl⟩ := hcs
    have hx' : d = _ := congrArg Prod.fst hx
    rw [hx', DataW.weights, Try.underlying22] at hwt
    have hfew : (elems.length + rest.length) * Try.prog.bytesOf 35 ≤ reachBytes := by
      have := hwt _ (List.mem_cons_self ..)
      simpa using this
    rw [Try.bytesOf35] at hfew
    have hR := reachBytes_lt
    have each : ∀ i, i < len → ∃ o : Opr, (∀ j u, (o.cells)[j]? = some u → W.cell? (a.add (i * 7 + j)) = some u) ∧ a.block < W.heap.size ∧ o.ok W := by
      intro i hi
      have he := hev i hi
      rw [Try.cellsOf35] at he
      obtain ⟨cs', hc', ht'⟩ := Option.bind_eq_some_iff.1 (he.trans (List.getElem?_eq_getElem (by omega)))
      obtain ⟨o, hcs', hok⟩ := trod_op ht' (fun u hu => hwt u (by
        refine List.mem_cons_of_mem _ (List.mem_append_left _ (mem_all (d := (elems[i]'(by omega)).1) ?_ u hu))
        exact List.mem_map.2 ⟨_, List.getElem_mem (by omega), rfl⟩))
      obtain ⟨_, hlen', hcell⟩ := World.cells?_some hc'
      refine ⟨o, fun j u hu => ?_, ?_, hok⟩
      · have hj : j < 7 := (Array.getElem?_eq_some_iff.1 hu).1
        have := hcell j hj
        rw [add_add'] at this
        rw [this, hcs']
        simpa using hu
      · have := hcell 0 (by omega)
        obtain ⟨c, hc0⟩ : ∃ c, cs'[0]? = some c := ⟨cs'[0]'(by omega), List.getElem?_eq_getElem (by omega)⟩
        rw [hc0] at this
        have := World.block_lt_of_cell? W _ this
        rwa [add_block, add_block] at this
    haveI : Inhabited Opr := ⟨⟨0, 0, 0, 0, 0, ByteArray.empty, .slice none 0 0, []⟩⟩
    obtain ⟨q, hq⟩ := choose_lt each
    have e1 : ((List.range len).map q).length = len := by simp
    refine ⟨(List.range len).map q, some a, cap, by rw [e1], by rw [e1]; exact hlc, by rw [e1]; omega, fun i hi => ?_⟩
    have hi' : i < len := by rw [e1] at hi; exact hi
    have e2 : ((List.range len).map q)[i] = q i := by simp
    rw [e2]
    obtain ⟨g1, g2, g3⟩ := hq i hi'
    obtain ⟨b, o, spot⟩ := a
    have hz := (hq 0 (by omega)).1 0 _ rfl
    have hspot : spot = none := by simpa [Addr.add] using World.cell?_spot hz
    subst hspot
    refine ⟨g3, b, o, rfl, g2, fun j u hu => ?_⟩
    have := g1 j u hu
    rw [addr_at, ← Nat.add_assoc] at this
    exact this
theorem ints_of {H : Type} {enc : TypeId × Value → H} {W : World} {base : Nat} {v : Value} {d : DataW H} {p : List MemPlace} {held : Bool}
    (h : DataW.Trod enc Try.prog W base (fun _ => true) held 33 v d p) (hv : ∃ ao len cap, v = .slice ao len cap) (hwt : ∀ u ∈ d.weights Try.prog 33, u ≤ reachBytes) : ∃ ch, ChOk W v ch := by
  obtain ⟨ao, len, cap, rfl⟩ := hv
  obtain ⟨fuel, hf⟩ := h
  exact trod_ints (c := .slice ao len cap) (by simpa [Value.cells] using hf) hwt
end Go.Proofs.Ytcmhpkeighenaaa
