/- Lists of calls as arguments of the laws. Conditions: no list is longer than a machine holds. -/
import Derived.Test.YtedhefidfepclaaArg
namespace Go.Proofs.Ytedhefidfepclaa
open Go.ChangeShapes Go.WideShapes Go.ChangeAt Go.RowKit Go.Deep
set_option linter.unusedVariables false

theorem Try.bytesOf35 : Try.prog.bytesOf 35 = 56 := by kernel_rfl
structure Opn where
  on : Int
  kd : Int
  pt : Int
  a : Int
  b : Int
  s : ByteArray
def o00 : Opn := ⟨0, 0, 0, 0, 0, ByteArray.empty⟩
instance : Inhabited Opn := ⟨o00⟩
/-- a slice of calls, whose row is a block of G -/
def OpsV (G : Nat → Prop) (w : World) (v : Value) (ws : List Opn) : Prop :=
  ∃ q cap, v = .slice q ws.length cap ∧ ws.length ≤ cap ∧ (ws ≠ [] → ∃ b o, q = some ⟨b, o, none⟩ ∧ G b ∧ b < w.heap.size ∧
    ∀ j, j < ws.length → w.cell? ⟨b, o + j * 6, none⟩ = some (.int .i64 (ws.getD j o00).on) ∧ w.cell? ⟨b, o + j * 6 + 1, none⟩ = some (.int .i64 (ws.getD j o00).kd) ∧ w.cell? ⟨b, o + j * 6 + 2, none⟩ = some (.int .i64 (ws.getD j o00).pt) ∧ w.cell? ⟨b, o + j * 6 + 3, none⟩ = some (.int .i64 (ws.getD j o00).a) ∧ w.cell? ⟨b, o + j * 6 + 4, none⟩ = some (.int .i64 (ws.getD j o00).b) ∧ w.cell? ⟨b, o + j * 6 + 5, none⟩ = some (.string (ws.getD j o00).s))
theorem OpsV.of_heap {G : Nat → Prop} {w w' : World} {v : Value} {ws : List Opn} (h : OpsV G w v ws) (hs : w.heap.size ≤ w'.heap.size) (e : ∀ k, k < w.heap.size → G k → w'.heap[k]? = w.heap[k]?) : OpsV G w' v ws := by
  obtain ⟨q, cap, h1, h2, h3⟩ := h
  refine ⟨q, cap, h1, h2, fun hne => ?_⟩
  obtain ⟨b, o, hq, hG, hlt, hc⟩ := h3 hne
  refine ⟨b, o, hq, hG, by omega, fun j hj => ?_⟩
  have := hc j hj
  simp only [World.cell?, e b hlt hG] at this ⊢
  exact this
theorem OpsV.below {G : Nat → Prop} {w w' : World} {v : Value} {ws : List Opn} (h : OpsV G w v ws) (hb : Below w.heap.size w w') : OpsV G w' v ws := h.of_heap hb.size fun k hk _ => hb.block k hk
theorem OpsV.nil (G : Nat → Prop) (w : World) : OpsV G w (.slice none 0 0) [] := ⟨none, 0, rfl, Nat.le_refl _, fun h => absurd rfl h⟩
theorem OpsV.len {G : Nat → Prop} {w : World} {v : Value} {ws : List Opn} (h : OpsV G w v ws) : ∃ q cap, v = .slice q ws.length cap := by
  obtain ⟨q, cap, e, _⟩ := h; exact ⟨q, cap, e⟩
theorem OpsV.at {G : Nat → Prop} {w W : World} {q : Option Addr} {n cap : Nat} {ws : List Opn} (h : OpsV G w (.slice q n cap) ws) (hb : Below w.heap.size w W) {k : Nat} (hk : k < n) : ∃ b o, q = some ⟨b, o, none⟩ ∧ b < w.heap.size ∧
    W.cell? ⟨b, o + k * 6, none⟩ = some (.int .i64 (ws.getD k o00).on) ∧ W.cell? ⟨b, o + k * 6 + 1, none⟩ = some (.int .i64 (ws.getD k o00).kd) ∧ W.cell? ⟨b, o + k * 6 + 2, none⟩ = some (.int .i64 (ws.getD k o00).pt) ∧ W.cell? ⟨b, o + k * 6 + 3, none⟩ = some (.int .i64 (ws.getD k o00).a) ∧ W.cell? ⟨b, o + k * 6 + 4, none⟩ = some (.int .i64 (ws.getD k o00).b) ∧ W.cell? ⟨b, o + k * 6 + 5, none⟩ = some (.string (ws.getD k o00).s) := by
  have hlt0 : ∃ b o, q = some ⟨b, o, none⟩ ∧ b < w.heap.size := by
    obtain ⟨q', cap', e, _, hc⟩ := h
    injection e with ea eb ec
    obtain ⟨b, o, hq, _, hlt, _⟩ := hc (fun e => by rw [e] at eb; simp at eb; omega)
    exact ⟨b, o, ea.trans hq, hlt⟩
  obtain ⟨q', cap', e, _, hc⟩ := h.below hb
  injection e with ea eb ec
  obtain ⟨b, o, hq, _, hlt, hcl⟩ := hc (fun e => by rw [e] at eb; simp at eb; omega)
  obtain ⟨b2, o2, hq2, hlt2⟩ := hlt0
  rw [ea, hq] at hq2
  injection hq2 with hq2
  injection hq2 with h1 h2
  subst h1; subst h2
  exact ⟨b, o, ea.trans hq, hlt2, hcl k (by omega)⟩
/-- a list of calls that came in -/
def OpsOk (W : World) (v : Value) (ps : List Opn) : Prop := OpsV (fun b => b < W.heap.size) W v ps ∧ (∀ x ∈ ps, In64 x.on ∧ In64 x.a ∧ x.s.size ≤ 140737488351232) ∧ ps.length * 56 < 140737488355328
set_option maxRecDepth 100000 in
theorem trod_op {H : Type} {enc : TypeId × Value → H} {W : World} {base : Nat} {held : Bool} {fuel : Nat} {cs : List Value} {x : DataW H × List MemPlace}
    (h : DataW.trod enc Try.prog W base (fun _ => true) held fuel 35 cs = some x) (hwt : ∀ u ∈ x.1.weights Try.prog 35, u ≤ reachBytes) : ∃ p : Opn, cs = [.int .i64 p.on, .int .i64 p.kd, .int .i64 p.pt, .int .i64 p.a, .int .i64 p.b, .string p.s] ∧ In64 p.on ∧ In64 p.a ∧ p.s.size ≤ 140737488351232 := by
  obtain ⟨xs, n, hn, rfl, hl, hlen, hf⟩ := DataW.trod_struct Try.underlying35 h
  rw [Try.cellsOf35] at hl
  match cs, hl with
  | [c0, c1, c2, c3, c4, c5], _ =>
    match xs, hlen with
    | [y0, y1, y2, y3, y4, y5], _ =>
      have h0 : DataW.trod enc Try.prog W base (fun _ => true) held n 3 (([c0, c1, c2, c3, c4, c5].drop 0).take (Try.prog.cellsOf 3)) = [y0, y1, y2, y3, y4, y5][0]? := hf 0 _ rfl
      have h1 : DataW.trod enc Try.prog W base (fun _ => true) held n 3 (([c0, c1, c2, c3, c4, c5].drop 1).take (Try.prog.cellsOf 3)) = [y0, y1, y2, y3, y4, y5][1]? := hf 1 _ rfl
      have h2 : DataW.trod enc Try.prog W base (fun _ => true) held n 3 (([c0, c1, c2, c3, c4, c5].drop 2).take (Try.prog.cellsOf 3)) = [y0, y1, y2, y3, y4, y5][2]? := hf 2 _ rfl
      have h3 : DataW.trod enc Try.prog W base (fun _ => true) held n 3 (([c0, c1, c2, c3, c4, c5].drop 3).take (Try.prog.cellsOf 3)) = [y0, y1, y2, y3, y4, y5][3]? := hf 3 _ rfl
      have h4 : DataW.trod enc Try.prog W base (fun _ => true) held n 3 (([c0, c1, c2, c3, c4, c5].drop 4).take (Try.prog.cellsOf 3)) = [y0, y1, y2, y3, y4, y5][4]? := hf 4 _ rfl
      have h5 : DataW.trod enc Try.prog W base (fun _ => true) held n 9 (([c0, c1, c2, c3, c4, c5].drop 5).take (Try.prog.cellsOf 9)) = [y0, y1, y2, y3, y4, y5][5]? := hf 5 _ rfl
      rw [Try.cellsOf3] at h0 h1 h2 h3 h4
      rw [Try.cellsOf9] at h5
      simp at h0 h1 h2 h3 h4 h5
      obtain ⟨a0, e0, _, w0⟩ := DataW.trod_int Try.underlying3 h0
      cases e0
      obtain ⟨a1, e1, _, w1⟩ := DataW.trod_int Try.underlying3 h1
      cases e1
      obtain ⟨a2, e2, _, w2⟩ := DataW.trod_int Try.underlying3 h2
      cases e2
      obtain ⟨a3, e3, _, w3⟩ := DataW.trod_int Try.underlying3 h3
      cases e3
      obtain ⟨a4, e4, _, w4⟩ := DataW.trod_int Try.underlying3 h4
      cases e4
      obtain ⟨s, e5, e5', _⟩ := DataW.trod_string Try.underlying9 h5
      cases e5
      have hw5 : ∀ u ∈ y5.1.weights Try.prog 9, u ≤ reachBytes := fun u hu => hwt u (by
        rw [DataW.weights, Try.underlying35]
        exact DataW.weights_mem_each (j := 5) rfl rfl u hu)
      have hs : s.size ≤ 140737488351232 := by
        rw [e5'] at hw5
        have := hw5 s.size (by simp [DataW.weights])
        simpa [reachBytes] using this
      exact ⟨⟨a0, a1, a2, a3, a4, s⟩, rfl, wf_i64 w0, wf_i64 w3, hs⟩
set_option maxRecDepth 100000 in
theorem ops_of {H : Type} {enc : TypeId × Value → H} {W : World} {base : Nat} {v : Value} {d : DataW H} {p : List MemPlace} {held : Bool}
    (h : DataW.Trod enc Try.prog W base (fun _ => true) held 23 v d p) (hv : ∃ ao len cap, v = .slice ao len cap) (hwt : ∀ u ∈ d.weights Try.prog 23, u ≤ reachBytes) : ∃ ps, OpsOk W v ps := by
  obtain ⟨ao, len, cap, rfl⟩ := hv
  obtain ⟨fuel, hf⟩ := h
  rcases DataW.trod_slice Try.underlying23 hf with ⟨hcs, _⟩ | ⟨a, len', cap', elems, rest, m, hm, hcs, hx, hb, hlc, hcm, hel, hev, _, _⟩
  · simp [Value.cells] at hcs
    obtain ⟨rfl, rfl, rfl⟩ := hcs
    exact ⟨[], OpsV.nil _ _, (fun x hx => nomatch hx), by simp⟩
  · simp [Value.cells] at hcs
    obtain ⟨rfl, rfl, rfl⟩ := hcs
    have hx' : d = _ := congrArg Prod.fst hx
    rw [hx', DataW.weights, Try.underlying23] at hwt
    have hfew : (elems.length + rest.length) * Try.prog.bytesOf 35 ≤ reachBytes := by
      have := hwt _ (List.mem_cons_self ..)
      simpa using this
    rw [Try.bytesOf35] at hfew
    have hR := reachBytes_lt
    have each : ∀ i, i < len → ∃ p : Opn, W.cell? (a.add (i * 6)) = some (.int .i64 p.on) ∧ W.cell? (a.add (i * 6 + 1)) = some (.int .i64 p.kd) ∧ W.cell? (a.add (i * 6 + 2)) = some (.int .i64 p.pt) ∧ W.cell? (a.add (i * 6 + 3)) = some (.int .i64 p.a) ∧ W.cell? (a.add (i * 6 + 4)) = some (.int .i64 p.b) ∧ W.cell? (a.add (i * 6 + 5)) = some (.string p.s) ∧ In64 p.on ∧ In64 p.a ∧ p.s.size ≤ 140737488351232 := by
      intro i hi
      have he := hev i hi
      rw [Try.cellsOf35] at he
      obtain ⟨cs', hc', ht'⟩ := Option.bind_eq_some_iff.1 (he.trans (List.getElem?_eq_getElem (by omega)))
      obtain ⟨p, hcs', w1, w2, w3⟩ := trod_op ht' (fun u hu => hwt u (List.mem_cons_of_mem _ (List.mem_append_left _ (mem_all (d := (elems[i]'(by omega)).1) (List.mem_map_of_mem (List.getElem_mem _)) u hu))))
      obtain ⟨_, hlen', hcell⟩ := World.cells?_some hc'
      have q0 := hcell 0 (by omega)
      have q1 := hcell 1 (by omega)
      have q2 := hcell 2 (by omega)
      have q3 := hcell 3 (by omega)
      have q4 := hcell 4 (by omega)
      have q5 := hcell 5 (by omega)
      rw [add_add', hcs'] at q0 q1 q2 q3 q4 q5
      exact ⟨p, q0, q1, q2, q3, q4, q5, w1, w2, w3⟩
    obtain ⟨q, hq⟩ := choose_lt each
    have e1 : ((List.range len).map q).length = len := by simp
    refine ⟨(List.range len).map q, ⟨some a, cap, by rw [e1], by rw [e1]; exact hlc, fun hne => ?_⟩, fun x hx => ?_, by rw [e1]; omega⟩
    · have hl0 : 0 < len := by
        rcases Nat.eq_zero_or_pos len with e | e
        · subst e; simp at hne
        · exact e
      obtain ⟨b, o, spot⟩ := a
      have hz := (hq 0 hl0).1
      have hspot : spot = none := by simpa [Addr.add] using World.cell?_spot hz
      subst hspot
      refine ⟨b, o, rfl, ?_, ?_, fun j hj => ?_⟩
      · exact World.block_lt_of_cell? W _ hz
      · exact World.block_lt_of_cell? W _ hz
      · rw [e1] at hj
        obtain ⟨g1, g2, g3, g4, g5, g6, _⟩ := hq j hj
        rw [addr_at] at g1 g2 g3 g4 g5 g6
        have e2 : ((List.range len).map q).getD j o00 = q j := by simp [List.getD, hj]
        rw [e2]
        exact ⟨g1, g2, g3, g4, g5, g6⟩
    · obtain ⟨i, hi, rfl⟩ := List.mem_map.1 hx
      exact (hq i (List.mem_range.1 hi)).2.2.2.2.2.2
end Go.Proofs.Ytedhefidfepclaa
