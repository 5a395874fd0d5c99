/- Lists of calls, and a port's terms, as arguments of the laws. Conditions: no list is longer than a machine holds. -/
import Derived.Test.YtolcdfkkdhkpfaaFxd
import Derived.ProofKit
import Derived.OpenShut
import Derived.ShutString
import Derived.ChangeOld
import Derived.SizedLaws
import Derived.ChangeSlices
import Derived.Deep.Slices
namespace Go.Proofs.Ytolcdfkkdhkpfaa
open Go.ChangeShapes Go.WideShapes Go.ChangeAt Go.RowKit Go.Deep
set_option linter.unusedVariables false

theorem Try.cellsOf3 : Try.prog.cellsOf 3 = 1 := by kernel_rfl
theorem Try.cellsOf9 : Try.prog.cellsOf 9 = 1 := by kernel_rfl
theorem Try.cellsOf37 : Try.prog.cellsOf 37 = 4 := by kernel_rfl
theorem Try.cellsOf23 : Try.prog.cellsOf 23 = 5 := by kernel_rfl
theorem Try.bytesOf37 : Try.prog.bytesOf 37 = 40 := by kernel_rfl
def In64 (x : Int) : Prop := -9223372036854775808 ≤ x ∧ x < 9223372036854775808
theorem add_add' (a : Addr) (i j : Nat) : (a.add i).add j = a.add (i + j) := by
  unfold Addr.add
  by_cases hi : i = 0
  · subst hi; simp
  · by_cases hj : j = 0
    · subst hj; simp
    · rw [if_neg hi, if_neg hj, if_neg (by omega)]; simp [Nat.add_assoc]
theorem wf_i64 {a : Int} (h : (Lit.int IntKind.i64 a).wf = true) : In64 a := by
  simp [Lit.wf, IntKind.max, IntKind.min, IntKind.signed, IntKind.bits] at h
  unfold In64; omega
/-- a call: on which, which kind, tick, text -/
structure Opn where
  on : Int
  kd : Int
  tk : Int
  s : ByteArray
def o00 : Opn := ⟨0, 0, 0, ByteArray.empty⟩
instance : Inhabited Opn := ⟨o00⟩
/-- a slice of calls, whose row is a block of G -/
def OpsV (G : Nat → Prop) (w : World) (v : Value) (ws : List Opn) : Prop :=
  ∃ q cap, v = .slice q ws.length cap ∧ ws.length ≤ cap ∧ (ws ≠ [] → ∃ b o, q = some ⟨b, o, none⟩ ∧ G b ∧ b < w.heap.size ∧
    ∀ j, j < ws.length → w.cell? ⟨b, o + j * 4, none⟩ = some (.int .i64 (ws.getD j o00).on) ∧ w.cell? ⟨b, o + j * 4 + 1, none⟩ = some (.int .i64 (ws.getD j o00).kd) ∧ w.cell? ⟨b, o + j * 4 + 2, none⟩ = some (.int .i64 (ws.getD j o00).tk) ∧ w.cell? ⟨b, o + j * 4 + 3, none⟩ = some (.string (ws.getD j o00).s))
theorem OpsV.of_heap {G : Nat → Prop} {w w' : World} {v : Value} {ws : List Opn} (h : OpsV G w v ws) (hs : w.heap.size ≤ w'.heap.size) (e : ∀ k, k < w.heap.size → G k → w'.heap[k]? = w.heap[k]?) : OpsV G w' v ws := by
  obtain ⟨q, cap, h1, h2, h3⟩ := h
  refine ⟨q, cap, h1, h2, fun hne => ?_⟩
  obtain ⟨b, o, hq, hG, hlt, hc⟩ := h3 hne
  refine ⟨b, o, hq, hG, by omega, fun j hj => ?_⟩
  have := hc j hj
  simp only [World.cell?, e b hlt hG] at this ⊢
  exact this
theorem OpsV.below {G : Nat → Prop} {w w' : World} {v : Value} {ws : List Opn} (h : OpsV G w v ws) (hb : Below w.heap.size w w') : OpsV G w' v ws := h.of_heap hb.size fun k hk _ => hb.block k hk
theorem OpsV.nil (G : Nat → Prop) (w : World) : OpsV G w (.slice none 0 0) [] := ⟨none, 0, rfl, Nat.le_refl _, fun h => absurd rfl h⟩
theorem OpsV.len {G : Nat → Prop} {w : World} {v : Value} {ws : List Opn} (h : OpsV G w v ws) : ∃ q cap, v = .slice q ws.length cap := by
  obtain ⟨q, cap, e, _⟩ := h; exact ⟨q, cap, e⟩
theorem OpsV.at {G : Nat → Prop} {w W : World} {q : Option Addr} {n cap : Nat} {ws : List Opn} (h : OpsV G w (.slice q n cap) ws) (hb : Below w.heap.size w W) {k : Nat} (hk : k < n) : ∃ b o, q = some ⟨b, o, none⟩ ∧ b < w.heap.size ∧
    W.cell? ⟨b, o + k * 4, none⟩ = some (.int .i64 (ws.getD k o00).on) ∧ W.cell? ⟨b, o + k * 4 + 1, none⟩ = some (.int .i64 (ws.getD k o00).kd) ∧ W.cell? ⟨b, o + k * 4 + 2, none⟩ = some (.int .i64 (ws.getD k o00).tk) ∧ W.cell? ⟨b, o + k * 4 + 3, none⟩ = some (.string (ws.getD k o00).s) := by
  have hlt0 : ∃ b o, q = some ⟨b, o, none⟩ ∧ b < w.heap.size := by
    obtain ⟨q', cap', e, _, hc⟩ := h
    injection e with ea eb ec
    obtain ⟨b, o, hq, _, hlt, _⟩ := hc (fun e => by rw [e] at eb; simp at eb; omega)
    exact ⟨b, o, ea.trans hq, hlt⟩
  obtain ⟨q', cap', e, _, hc⟩ := h.below hb
  injection e with ea eb ec
  obtain ⟨b, o, hq, _, hlt, hcl⟩ := hc (fun e => by rw [e] at eb; simp at eb; omega)
  obtain ⟨b2, o2, hq2, hlt2⟩ := hlt0
  rw [ea, hq] at hq2
  injection hq2 with hq2
  injection hq2 with h1 h2
  subst h1; subst h2
  exact ⟨b, o, ea.trans hq, hlt2, hcl k (by omega)⟩
/-- a list of calls that came in -/
def OpsOk (W : World) (v : Value) (ps : List Opn) : Prop := OpsV (fun b => b < W.heap.size) W v ps ∧ (∀ x ∈ ps, In64 x.on) ∧ ps.length * 40 < 140737488355328
set_option maxRecDepth 100000 in
theorem trod_op {H : Type} {enc : TypeId × Value → H} {W : World} {base : Nat} {held : Bool} {fuel : Nat} {cs : List Value} {x : DataW H × List MemPlace}
    (h : DataW.trod enc Try.prog W base (fun _ => true) held fuel 37 cs = some x) : ∃ p : Opn, cs = [.int .i64 p.on, .int .i64 p.kd, .int .i64 p.tk, .string p.s] ∧ In64 p.on := by
  obtain ⟨xs, n, hn, rfl, hl, hlen, hf⟩ := DataW.trod_struct Try.underlying37 h
  rw [Try.cellsOf37] at hl
  match cs, hl with
  | [c0, c1, c2, c3], _ =>
    match xs, hlen with
    | [y0, y1, y2, y3], _ =>
      have h0 : DataW.trod enc Try.prog W base (fun _ => true) held n 3 (([c0, c1, c2, c3].drop 0).take (Try.prog.cellsOf 3)) = [y0, y1, y2, y3][0]? := hf 0 _ rfl
      have h1 : DataW.trod enc Try.prog W base (fun _ => true) held n 3 (([c0, c1, c2, c3].drop 1).take (Try.prog.cellsOf 3)) = [y0, y1, y2, y3][1]? := hf 1 _ rfl
      have h2 : DataW.trod enc Try.prog W base (fun _ => true) held n 3 (([c0, c1, c2, c3].drop 2).take (Try.prog.cellsOf 3)) = [y0, y1, y2, y3][2]? := hf 2 _ rfl
      have h3 : DataW.trod enc Try.prog W base (fun _ => true) held n 9 (([c0, c1, c2, c3].drop 3).take (Try.prog.cellsOf 9)) = [y0, y1, y2, y3][3]? := hf 3 _ rfl
      rw [Try.cellsOf3] at h0 h1 h2
      rw [Try.cellsOf9] at h3
      simp at h0 h1 h2 h3
      obtain ⟨a, e0, _, w0⟩ := DataW.trod_int Try.underlying3 h0
      cases e0
      obtain ⟨b, e1, _, w1⟩ := DataW.trod_int Try.underlying3 h1
      cases e1
      obtain ⟨c, e2, _, w2⟩ := DataW.trod_int Try.underlying3 h2
      cases e2
      obtain ⟨s, e3, _, w3⟩ := DataW.trod_string Try.underlying9 h3
      cases e3
      exact ⟨⟨a, b, c, s⟩, rfl, wf_i64 w0⟩
set_option maxRecDepth 100000 in
theorem ops_of {H : Type} {enc : TypeId × Value → H} {W : World} {base : Nat} {v : Value} {d : DataW H} {p : List MemPlace} {held : Bool}
    (h : DataW.Trod enc Try.prog W base (fun _ => true) held 24 v d p) (hv : ∃ ao len cap, v = .slice ao len cap) (hwt : ∀ u ∈ d.weights Try.prog 24, u ≤ reachBytes) : ∃ ps, OpsOk W v ps := by
  obtain ⟨ao, len, cap, rfl⟩ := hv
  obtain ⟨fuel, hf⟩ := h
  rcases DataW.trod_slice Try.underlying24 hf with ⟨hcs, _⟩ | ⟨a, len', cap', elems, rest, m, hm, hcs, hx, hb, hlc, hcm, hel, hev, _, _⟩
  · simp [Value.cells] at hcs
    obtain ⟨rfl, rfl, rfl⟩ := hcs
    exact ⟨[], OpsV.nil _ _, (fun x hx => nomatch hx), by simp⟩
  · simp [Value.cells] at hcs
    obtain ⟨rfl, rfl, rfl⟩ := hcs
    have hx' : d = _ := congrArg Prod.fst hx
    rw [hx', DataW.weights, Try.underlying24] at hwt
    have hfew : (elems.length + rest.length) * Try.prog.bytesOf 37 ≤ reachBytes := by
      have := hwt _ (List.mem_cons_self ..)
      simpa using this
    rw [Try.bytesOf37] at hfew
    have hR := reachBytes_lt
    have each : ∀ i, i < len → ∃ p : Opn, W.cell? (a.add (i * 4)) = some (.int .i64 p.on) ∧ W.cell? (a.add (i * 4 + 1)) = some (.int .i64 p.kd) ∧ W.cell? (a.add (i * 4 + 2)) = some (.int .i64 p.tk) ∧ W.cell? (a.add (i * 4 + 3)) = some (.string p.s) ∧ In64 p.on := by
      intro i hi
      have he := hev i hi
      rw [Try.cellsOf37] at he
      obtain ⟨cs', hc', ht'⟩ := Option.bind_eq_some_iff.1 (he.trans (List.getElem?_eq_getElem (by omega)))
      obtain ⟨p, hcs', w1⟩ := trod_op ht'
      obtain ⟨_, hlen', hcell⟩ := World.cells?_some hc'
      have q0 := hcell 0 (by omega)
      have q1 := hcell 1 (by omega)
      have q2 := hcell 2 (by omega)
      have q3 := hcell 3 (by omega)
      rw [add_add', hcs'] at q0 q1 q2 q3
      exact ⟨p, q0, q1, q2, q3, w1⟩
    obtain ⟨q, hq⟩ := choose_lt each
    have e1 : ((List.range len).map q).length = len := by simp
    refine ⟨(List.range len).map q, ⟨some a, cap, by rw [e1], by rw [e1]; exact hlc, fun hne => ?_⟩, fun x hx => ?_, by rw [e1]; omega⟩
    · have hl0 : 0 < len := by
        rcases Nat.eq_zero_or_pos len with e | e
        · subst e; simp at hne
        · exact e
      obtain ⟨b, o, spot⟩ := a
      have hz := (hq 0 hl0).1
      have hspot : spot = none := by simpa [Addr.add] using World.cell?_spot hz
      subst hspot
      refine ⟨b, o, rfl, ?_, ?_, fun j hj => ?_⟩
      · exact World.block_lt_of_cell? W _ hz
      · exact World.block_lt_of_cell? W _ hz
      · rw [e1] at hj
        obtain ⟨g1, g2, g3, g4, _⟩ := hq j hj
        rw [addr_at] at g1 g2 g3 g4
        have e2 : ((List.range len).map q).getD j o00 = q j := by simp [List.getD, hj]
        rw [e2]
        exact ⟨g1, g2, g3, g4⟩
    · obtain ⟨i, hi, rfl⟩ := List.mem_map.1 hx
      exact (hq i (List.mem_range.1 hi)).2.2.2.2
set_option maxRecDepth 100000 in
theorem cf_of {H : Type} {enc : TypeId × Value → H} {W : World} {base b0 : Nat} {v : Value} {d : DataW H} {p : List MemPlace} (hv : Value.okWide Try.prog W .any b0 23 v)
    (h : DataW.Trod enc Try.prog W base (fun _ => true) true 23 v d p) : ∃ c : Cf, v = c.agg := by
  simp only [Value.okWide, Try.underlying23] at hv
  obtain ⟨cs, rfl, hs, _⟩ := hv
  obtain ⟨fuel, hf⟩ := h
  obtain ⟨xs, n, hn, hx, hl, hlen, hf⟩ := DataW.trod_struct Try.underlying23 hf
  rw [Try.cellsOf23] at hl
  have hcs : (Value.agg cs).cells.toList = cs.toList := rfl
  rw [hcs] at hl hf
  match hc : cs.toList, hl with
  | [c0, c1, c2, c3, c4], _ =>
    rw [hc] at hf
    match xs, hlen with
    | [y0, y1, y2, y3, y4], _ =>
      have h0 : DataW.trod enc Try.prog W base (fun _ => true) true n 3 (([c0, c1, c2, c3, c4].drop 0).take (Try.prog.cellsOf 3)) = [y0, y1, y2, y3, y4][0]? := hf 0 _ rfl
      have h1 : DataW.trod enc Try.prog W base (fun _ => true) true n 3 (([c0, c1, c2, c3, c4].drop 1).take (Try.prog.cellsOf 3)) = [y0, y1, y2, y3, y4][1]? := hf 1 _ rfl
      have h2 : DataW.trod enc Try.prog W base (fun _ => true) true n 3 (([c0, c1, c2, c3, c4].drop 2).take (Try.prog.cellsOf 3)) = [y0, y1, y2, y3, y4][2]? := hf 2 _ rfl
      have h3 : DataW.trod enc Try.prog W base (fun _ => true) true n 3 (([c0, c1, c2, c3, c4].drop 3).take (Try.prog.cellsOf 3)) = [y0, y1, y2, y3, y4][3]? := hf 3 _ rfl
      have h4 : DataW.trod enc Try.prog W base (fun _ => true) true n 3 (([c0, c1, c2, c3, c4].drop 4).take (Try.prog.cellsOf 3)) = [y0, y1, y2, y3, y4][4]? := hf 4 _ rfl
      rw [Try.cellsOf3] at h0 h1 h2 h3 h4
      simp at h0 h1 h2 h3 h4
      obtain ⟨x, e0, _, w0⟩ := DataW.trod_int Try.underlying3 h0
      cases e0
      obtain ⟨y, e1, _, w1⟩ := DataW.trod_int Try.underlying3 h1
      cases e1
      obtain ⟨z, e2, _, w2⟩ := DataW.trod_int Try.underlying3 h2
      cases e2
      obtain ⟨u, e3, _, w3⟩ := DataW.trod_int Try.underlying3 h3
      cases e3
      obtain ⟨t, e4, _, w4⟩ := DataW.trod_int Try.underlying3 h4
      cases e4
      have he : cs = #[.int .i64 x, .int .i64 y, .int .i64 z, .int .i64 u, .int .i64 t] := by cases cs; simp_all
      exact ⟨⟨x, y, z, u, t⟩, by rw [he]; rfl⟩
end Go.Proofs.Ytolcdfkkdhkpfaa
