/- Lists of windows and of calls, and an ask, as arguments of the laws. Conditions: no list is longer than a machine holds. -/
import Derived.Test.YtgbmddjpaibcfaaItr
import Derived.ProofKit
import Derived.OpenShut
import Derived.ShutString
import Derived.ChangeOld
import Derived.SizedLaws
import Derived.ChangeSlices
import Derived.Deep.Slices
namespace Go.Proofs.Ytgbmddjpaibcfaa
open Go.ChangeShapes Go.WideShapes Go.ChangeAt Go.RowKit Go.Deep
set_option linter.unusedVariables false

theorem Try.cellsOf3 : Try.prog.cellsOf 3 = 1 := by kernel_rfl
theorem Try.cellsOf40 : Try.prog.cellsOf 40 = 3 := by kernel_rfl
theorem Try.cellsOf52 : Try.prog.cellsOf 52 = 3 := by kernel_rfl
theorem Try.cellsOf24 : Try.prog.cellsOf 24 = 4 := by kernel_rfl
theorem Try.bytesOf40 : Try.prog.bytesOf 40 = 24 := by kernel_rfl
theorem Try.bytesOf52 : Try.prog.bytesOf 52 = 24 := by kernel_rfl
def In64 (x : Int) : Prop := -9223372036854775808 ≤ x ∧ x < 9223372036854775808
theorem add_block (a : Addr) (k : Nat) : (a.add k).block = a.block := by unfold Addr.add; split <;> rfl
theorem add_add' (a : Addr) (i j : Nat) : (a.add i).add j = a.add (i + j) := by
  unfold Addr.add
  by_cases hi : i = 0
  · subst hi; simp
  · by_cases hj : j = 0
    · subst hj; simp
    · rw [if_neg hi, if_neg hj, if_neg (by omega)]; simp [Nat.add_assoc]
theorem wf_i64 {a : Int} (h : (Lit.int IntKind.i64 a).wf = true) : In64 a := by
  simp [Lit.wf, IntKind.max, IntKind.min, IntKind.signed, IntKind.bits] at h
  unfold In64; omega
/-- a list of three numbers each that came in -/
def WnOk (W : World) (v : Value) (ps : List Wn) : Prop := WinV (fun b => b < W.heap.size) W v ps ∧ (∀ x ∈ ps, In64 x.1 ∧ In64 x.2.1 ∧ In64 x.2.2) ∧ ps.length * 24 < 140737488355328
set_option maxRecDepth 100000 in
theorem trod_tri40 {H : Type} {enc : TypeId × Value → H} {W : World} {base : Nat} {held : Bool} {fuel : Nat} {cs : List Value} {x : DataW H × List MemPlace}
    (h : DataW.trod enc Try.prog W base (fun _ => true) held fuel 40 cs = some x) : ∃ p : Wn, cs = [.int .i64 p.1, .int .i64 p.2.1, .int .i64 p.2.2] ∧ In64 p.1 ∧ In64 p.2.1 ∧ In64 p.2.2 := by
  obtain ⟨xs, n, hn, rfl, hl, hlen, hf⟩ := DataW.trod_struct Try.underlying40 h
  rw [Try.cellsOf40] at hl
  match cs, hl with
  | [c0, c1, c2], _ =>
    match xs, hlen with
    | [y0, y1, y2], _ =>
      have h0 : DataW.trod enc Try.prog W base (fun _ => true) held n 3 (([c0, c1, c2].drop 0).take (Try.prog.cellsOf 3)) = [y0, y1, y2][0]? := hf 0 _ rfl
      have h1 : DataW.trod enc Try.prog W base (fun _ => true) held n 3 (([c0, c1, c2].drop 1).take (Try.prog.cellsOf 3)) = [y0, y1, y2][1]? := hf 1 _ rfl
      have h2 : DataW.trod enc Try.prog W base (fun _ => true) held n 3 (([c0, c1, c2].drop 2).take (Try.prog.cellsOf 3)) = [y0, y1, y2][2]? := hf 2 _ rfl
      rw [Try.cellsOf3] at h0 h1 h2
      simp at h0 h1 h2
      obtain ⟨a, e0, _, w0⟩ := DataW.trod_int Try.underlying3 h0
      cases e0
      obtain ⟨b, e1, _, w1⟩ := DataW.trod_int Try.underlying3 h1
      cases e1
      obtain ⟨c, e2, _, w2⟩ := DataW.trod_int Try.underlying3 h2
      cases e2
      exact ⟨(a, b, c), rfl, wf_i64 w0, wf_i64 w1, wf_i64 w2⟩
set_option maxRecDepth 100000 in
theorem wins_of {H : Type} {enc : TypeId × Value → H} {W : World} {base : Nat} {v : Value} {d : DataW H} {p : List MemPlace} {held : Bool}
    (h : DataW.Trod enc Try.prog W base (fun _ => true) held 22 v d p) (hv : ∃ ao len cap, v = .slice ao len cap) (hwt : ∀ u ∈ d.weights Try.prog 22, u ≤ reachBytes) : ∃ ps, WnOk W v ps := by
  obtain ⟨ao, len, cap, rfl⟩ := hv
  obtain ⟨fuel, hf⟩ := h
  rcases DataW.trod_slice Try.underlying22 hf with ⟨hcs, _⟩ | ⟨a, len', cap', elems, rest, m, hm, hcs, hx, hb, hlc, hcm, hel, hev, _, _⟩
  · simp [Value.cells] at hcs
    obtain ⟨rfl, rfl, rfl⟩ := hcs
    exact ⟨[], WinV.nil _ _, (fun x hx => nomatch hx), by simp⟩
  · simp [Value.cells] at hcs
    obtain ⟨rfl, rfl, rfl⟩ := hcs
    have hx' : d = _ := congrArg Prod.fst hx
    rw [hx', DataW.weights, Try.underlying22] at hwt
    have hfew : (elems.length + rest.length) * Try.prog.bytesOf 40 ≤ reachBytes := by
      have := hwt _ (List.mem_cons_self ..)
      simpa using this
    rw [Try.bytesOf40] at hfew
    have hR := reachBytes_lt
    have each : ∀ i, i < len → ∃ p : Wn, W.cell? (a.add (i * 3)) = some (.int .i64 p.1) ∧ W.cell? (a.add (i * 3 + 1)) = some (.int .i64 p.2.1) ∧ W.cell? (a.add (i * 3 + 2)) = some (.int .i64 p.2.2) ∧ In64 p.1 ∧ In64 p.2.1 ∧ In64 p.2.2 := by
      intro i hi
      have he := hev i hi
      rw [Try.cellsOf40] at he
      obtain ⟨cs', hc', ht'⟩ := Option.bind_eq_some_iff.1 (he.trans (List.getElem?_eq_getElem (by omega)))
      obtain ⟨p, hcs', w1, w2, w3⟩ := trod_tri40 ht'
      obtain ⟨_, hlen', hcell⟩ := World.cells?_some hc'
      have q0 := hcell 0 (by omega)
      have q1 := hcell 1 (by omega)
      have q2 := hcell 2 (by omega)
      rw [add_add', hcs'] at q0 q1 q2
      exact ⟨p, q0, q1, q2, w1, w2, w3⟩
    obtain ⟨q, hq⟩ := choose_lt each
    have e1 : ((List.range len).map q).length = len := by simp
    refine ⟨(List.range len).map q, ⟨some a, cap, by rw [e1], by rw [e1]; exact hlc, fun hne => ?_⟩, fun x hx => ?_, by rw [e1]; omega⟩
    · have hl0 : 0 < len := by
        rcases Nat.eq_zero_or_pos len with e | e
        · subst e; simp at hne
        · exact e
      obtain ⟨b, o, spot⟩ := a
      have hz := (hq 0 hl0).1
      have hspot : spot = none := by simpa [Addr.add] using World.cell?_spot hz
      subst hspot
      refine ⟨b, o, rfl, ?_, ?_, fun j hj => ?_⟩
      · exact World.block_lt_of_cell? W _ hz
      · exact World.block_lt_of_cell? W _ hz
      · rw [e1] at hj
        obtain ⟨g1, g2, g3, _⟩ := hq j hj
        rw [addr_at] at g1 g2 g3
        have e2 : ((List.range len).map q).getD j w0 = q j := by simp [List.getD, hj]
        rw [e2]
        exact ⟨g1, g2, g3⟩
    · obtain ⟨i, hi, rfl⟩ := List.mem_map.1 hx
      exact (hq i (List.mem_range.1 hi)).2.2.2
set_option maxRecDepth 100000 in
theorem trod_tri52 {H : Type} {enc : TypeId × Value → H} {W : World} {base : Nat} {held : Bool} {fuel : Nat} {cs : List Value} {x : DataW H × List MemPlace}
    (h : DataW.trod enc Try.prog W base (fun _ => true) held fuel 52 cs = some x) : ∃ p : Wn, cs = [.int .i64 p.1, .int .i64 p.2.1, .int .i64 p.2.2] ∧ In64 p.1 ∧ In64 p.2.1 ∧ In64 p.2.2 := by
  obtain ⟨xs, n, hn, rfl, hl, hlen, hf⟩ := DataW.trod_struct Try.underlying52 h
  rw [Try.cellsOf52] at hl
  match cs, hl with
  | [c0, c1, c2], _ =>
    match xs, hlen with
    | [y0, y1, y2], _ =>
      have h0 : DataW.trod enc Try.prog W base (fun _ => true) held n 3 (([c0, c1, c2].drop 0).take (Try.prog.cellsOf 3)) = [y0, y1, y2][0]? := hf 0 _ rfl
      have h1 : DataW.trod enc Try.prog W base (fun _ => true) held n 3 (([c0, c1, c2].drop 1).take (Try.prog.cellsOf 3)) = [y0, y1, y2][1]? := hf 1 _ rfl
      have h2 : DataW.trod enc Try.prog W base (fun _ => true) held n 3 (([c0, c1, c2].drop 2).take (Try.prog.cellsOf 3)) = [y0, y1, y2][2]? := hf 2 _ rfl
      rw [Try.cellsOf3] at h0 h1 h2
      simp at h0 h1 h2
      obtain ⟨a, e0, _, w0⟩ := DataW.trod_int Try.underlying3 h0
      cases e0
      obtain ⟨b, e1, _, w1⟩ := DataW.trod_int Try.underlying3 h1
      cases e1
      obtain ⟨c, e2, _, w2⟩ := DataW.trod_int Try.underlying3 h2
      cases e2
      exact ⟨(a, b, c), rfl, wf_i64 w0, wf_i64 w1, wf_i64 w2⟩
set_option maxRecDepth 100000 in
theorem ops_of {H : Type} {enc : TypeId × Value → H} {W : World} {base : Nat} {v : Value} {d : DataW H} {p : List MemPlace} {held : Bool}
    (h : DataW.Trod enc Try.prog W base (fun _ => true) held 42 v d p) (hv : ∃ ao len cap, v = .slice ao len cap) (hwt : ∀ u ∈ d.weights Try.prog 42, u ≤ reachBytes) : ∃ ps, WnOk W v ps := by
  obtain ⟨ao, len, cap, rfl⟩ := hv
  obtain ⟨fuel, hf⟩ := h
  rcases DataW.trod_slice Try.underlying42 hf with ⟨hcs, _⟩ | ⟨a, len', cap', elems, rest, m, hm, hcs, hx, hb, hlc, hcm, hel, hev, _, _⟩
  · simp [Value.cells] at hcs
    obtain ⟨rfl, rfl, rfl⟩ := hcs
    exact ⟨[], WinV.nil _ _, (fun x hx => nomatch hx), by simp⟩
  · simp [Value.cells] at hcs
    obtain ⟨rfl, rfl, rfl⟩ := hcs
    have hx' : d = _ := congrArg Prod.fst hx
    rw [hx', DataW.weights, Try.underlying42] at hwt
    have hfew : (elems.length + rest.length) * Try.prog.bytesOf 52 ≤ reachBytes := by
      have := hwt _ (List.mem_cons_self ..)
      simpa using this
    rw [Try.bytesOf52] at hfew
    have hR := reachBytes_lt
    have each : ∀ i, i < len → ∃ p : Wn, W.cell? (a.add (i * 3)) = some (.int .i64 p.1) ∧ W.cell? (a.add (i * 3 + 1)) = some (.int .i64 p.2.1) ∧ W.cell? (a.add (i * 3 + 2)) = some (.int .i64 p.2.2) ∧ In64 p.1 ∧ In64 p.2.1 ∧ In64 p.2.2 := by
      intro i hi
      have he := hev i hi
      rw [Try.cellsOf52] at he
      obtain ⟨cs', hc', ht'⟩ := Option.bind_eq_some_iff.1 (he.trans (List.getElem?_eq_getElem (by omega)))
      obtain ⟨p, hcs', w1, w2, w3⟩ := trod_tri52 ht'
      obtain ⟨_, hlen', hcell⟩ := World.cells?_some hc'
      have q0 := hcell 0 (by omega)
      have q1 := hcell 1 (by omega)
      have q2 := hcell 2 (by omega)
      rw [add_add', hcs'] at q0 q1 q2
      exact ⟨p, q0, q1, q2, w1, w2, w3⟩
    obtain ⟨q, hq⟩ := choose_lt each
    have e1 : ((List.range len).map q).length = len := by simp
    refine ⟨(List.range len).map q, ⟨some a, cap, by rw [e1], by rw [e1]; exact hlc, fun hne => ?_⟩, fun x hx => ?_, by rw [e1]; omega⟩
    · have hl0 : 0 < len := by
        rcases Nat.eq_zero_or_pos len with e | e
        · subst e; simp at hne
        · exact e
      obtain ⟨b, o, spot⟩ := a
      have hz := (hq 0 hl0).1
      have hspot : spot = none := by simpa [Addr.add] using World.cell?_spot hz
      subst hspot
      refine ⟨b, o, rfl, ?_, ?_, fun j hj => ?_⟩
      · exact World.block_lt_of_cell? W _ hz
      · exact World.block_lt_of_cell? W _ hz
      · rw [e1] at hj
        obtain ⟨g1, g2, g3, _⟩ := hq j hj
        rw [addr_at] at g1 g2 g3
        have e2 : ((List.range len).map q).getD j w0 = q j := by simp [List.getD, hj]
        rw [e2]
        exact ⟨g1, g2, g3⟩
    · obtain ⟨i, hi, rfl⟩ := List.mem_map.1 hx
      exact (hq i (List.mem_range.1 hi)).2.2.2
set_option maxRecDepth 100000 in
theorem ask_of {H : Type} {enc : TypeId × Value → H} {W : World} {base b0 : Nat} {v : Value} {d : DataW H} {p : List MemPlace} (hv : Value.okWide Try.prog W .any b0 24 v)
    (h : DataW.Trod enc Try.prog W base (fun _ => true) true 24 v d p) : ∃ x y z u : Int, v = .agg #[.int .i64 x, .int .i64 y, .int .i64 z, .int .i64 u] ∧ In64 x ∧ In64 y ∧ In64 z ∧ In64 u := by
  simp only [Value.okWide, Try.underlying24] at hv
  obtain ⟨cs, rfl, hs, _⟩ := hv
  obtain ⟨fuel, hf⟩ := h
  obtain ⟨xs, n, hn, hx, hl, hlen, hf⟩ := DataW.trod_struct Try.underlying24 hf
  rw [Try.cellsOf24] at hl
  have hcs : (Value.agg cs).cells.toList = cs.toList := rfl
  rw [hcs] at hl hf
  match hc : cs.toList, hl with
  | [c0, c1, c2, c3], _ =>
    rw [hc] at hf
    match xs, hlen with
    | [y0, y1, y2, y3], _ =>
      have h0 : DataW.trod enc Try.prog W base (fun _ => true) true n 3 (([c0, c1, c2, c3].drop 0).take (Try.prog.cellsOf 3)) = [y0, y1, y2, y3][0]? := hf 0 _ rfl
      have h1 : DataW.trod enc Try.prog W base (fun _ => true) true n 3 (([c0, c1, c2, c3].drop 1).take (Try.prog.cellsOf 3)) = [y0, y1, y2, y3][1]? := hf 1 _ rfl
      have h2 : DataW.trod enc Try.prog W base (fun _ => true) true n 3 (([c0, c1, c2, c3].drop 2).take (Try.prog.cellsOf 3)) = [y0, y1, y2, y3][2]? := hf 2 _ rfl
      have h3 : DataW.trod enc Try.prog W base (fun _ => true) true n 3 (([c0, c1, c2, c3].drop 3).take (Try.prog.cellsOf 3)) = [y0, y1, y2, y3][3]? := hf 3 _ rfl
      rw [Try.cellsOf3] at h0 h1 h2 h3
      simp at h0 h1 h2 h3
      obtain ⟨x, e0, _, w0⟩ := DataW.trod_int Try.underlying3 h0
      cases e0
      obtain ⟨y, e1, _, w1⟩ := DataW.trod_int Try.underlying3 h1
      cases e1
      obtain ⟨z, e2, _, w2⟩ := DataW.trod_int Try.underlying3 h2
      cases e2
      obtain ⟨u, e3, _, w3⟩ := DataW.trod_int Try.underlying3 h3
      cases e3
      have he : cs = #[.int .i64 x, .int .i64 y, .int .i64 z, .int .i64 u] := by cases cs; simp_all
      exact ⟨x, y, z, u, by rw [he], wf_i64 w0, wf_i64 w1, wf_i64 w2, wf_i64 w3⟩
end Go.Proofs.Ytgbmddjpaibcfaa
