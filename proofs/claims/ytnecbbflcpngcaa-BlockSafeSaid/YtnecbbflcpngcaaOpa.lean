/- Calls and choices that came in, as they lie in memory. Conditions: no list is longer than a machine holds. -/
import Derived.Test.YtnecbbflcpngcaaNwc
import Derived.ProofKit
import Derived.OpenShut
import Derived.ShutString
import Derived.ChangeOld
import Derived.SizedLaws
import Derived.ChangeSlices
import Derived.Deep.Slices
namespace Go.Proofs.Ytnecbbflcpngcaa
open Go.ChangeShapes Go.WideShapes Go.ChangeAt Go.RowKit Go.Deep
set_option maxRecDepth 20000
set_option linter.unusedVariables false

theorem Try.cellsOf3 : Try.prog.cellsOf 3 = 1 := by kernel_rfl
theorem Try.cellsOf5 : Try.prog.cellsOf 5 = 1 := by kernel_rfl
theorem Try.cellsOf9 : Try.prog.cellsOf 9 = 1 := by kernel_rfl
theorem Try.cellsOf52 : Try.prog.cellsOf 52 = 1 := by kernel_rfl
theorem Try.bytesOf3 : Try.prog.bytesOf 3 = 8 := by kernel_rfl
theorem mem_all {H : Type} {P : Program} {e : TypeId} : ∀ {ds : List (DataW H)} {d : DataW H}, d ∈ ds → ∀ n ∈ d.weights P e, n ∈ DataW.weightsAll P e ds
  | [], _, h, _, _ => by cases h
  | x :: r, d, h, n, hn => by
    rw [DataW.weightsAll, List.mem_append]
    rcases List.mem_cons.1 h with rfl | h
    · exact .inl hn
    · exact .inr (mem_all h n hn)
theorem add_block (a : Addr) (k : Nat) : (a.add k).block = a.block := by unfold Addr.add; split <;> rfl
theorem add_add' (a : Addr) (i j : Nat) : (a.add i).add j = a.add (i + j) := by
  unfold Addr.add
  by_cases hi : i = 0
  · subst hi; simp
  · by_cases hj : j = 0
    · subst hj; simp
    · rw [if_neg hi, if_neg hj, if_neg (by omega)]; simp [Nat.add_assoc]
def In64 (x : Int) : Prop := -9223372036854775808 ≤ x ∧ x < 9223372036854775808
theorem wf_i64 {a : Int} (h : (Lit.int IntKind.i64 a).wf = true) : In64 a := by
  simp [Lit.wf, IntKind.max, IntKind.min, IntKind.signed, IntKind.bits] at h
  unfold In64; omega
theorem wf_u8 {a : Int} (h : (Lit.int IntKind.u8 a).wf = true) : 0 ≤ a ∧ a < 256 := by
  simp [Lit.wf, IntKind.max, IntKind.min, IntKind.signed, IntKind.bits] at h
  omega
/-- choices that came in -/
def ChOk (W : World) (v : Value) (ch : List Int) : Prop := CV W (fun b => b < W.heap.size) v ch ∧ (∀ x ∈ ch, In64 x) ∧ ch.length ≤ 17592186044416
theorem ChOk.below {W W' : World} {v : Value} {ch : List Int} (h : ChOk W v ch) (hb : Below W.heap.size W W') : ChOk W' v ch :=
  ⟨(h.1.below hb).mono (fun k hk => Nat.lt_of_lt_of_le hk hb.size), h.2⟩
set_option maxRecDepth 100000 in
theorem trod_ints {H : Type} {enc : TypeId × Value → H} {W : World} {base : Nat} {held : Bool} {fuel : Nat} {c : Value} {x : DataW H × List MemPlace}
    (h : DataW.trod enc Try.prog W base (fun _ => true) held fuel 52 [c] = some x) (hwt : ∀ u ∈ x.1.weights Try.prog 52, u ≤ reachBytes) : ∃ ch, ChOk W c ch := by
  rcases DataW.trod_slice Try.underlying52 h with ⟨hcs, _⟩ | ⟨a, len, cap, elems, rest, m, hm, hcs, hx, hb, hlc, hcm, hel, hev, _, _⟩
  · simp at hcs
    subst hcs
    exact ⟨[], CV.nil _ _, (fun x hx => nomatch hx), Nat.zero_le _⟩
  · simp at hcs
    subst hcs
    rw [hx, DataW.weights, Try.underlying52] at hwt
    have hfew : (elems.length + rest.length) * Try.prog.bytesOf 3 ≤ reachBytes := by
      have := hwt _ (List.mem_cons_self ..)
      simpa using this
    rw [Try.bytesOf3] at hfew
    have hR := reachBytes_lt
    have each : ∀ i, i < len → ∃ q : Int, W.cell? (a.add i) = some (.int .i64 q) ∧ In64 q := by
      intro i hi
      have he := hev i hi
      rw [Try.cellsOf3] at he
      obtain ⟨cs', hc', ht'⟩ := Option.bind_eq_some_iff.1 (he.trans (List.getElem?_eq_getElem (by omega)))
      obtain ⟨_, hlen', hcell⟩ := World.cells?_some hc'
      obtain ⟨q, e0, _, w0⟩ := DataW.trod_int Try.underlying3 ht'
      subst e0
      have := hcell 0 (by omega)
      simp [add_add'] at this
      exact ⟨q, this, wf_i64 w0⟩
    obtain ⟨q, hq⟩ := choose_lt each
    have e1 : ((List.range len).map q).length = len := by simp
    refine ⟨(List.range len).map q, ⟨some a, cap, by rw [e1], by rw [e1]; exact hlc, fun hne => ?_⟩, fun x hx => ?_, by rw [e1]; omega⟩
    · have hl0 : 0 < len := by
        rcases Nat.eq_zero_or_pos len with e | e
        · subst e; simp at hne
        · exact e
      obtain ⟨b, o, spot⟩ := a
      have hz := (hq 0 hl0).1
      have hspot : spot = none := by simpa [Addr.add] using World.cell?_spot hz
      subst hspot
      refine ⟨b, o, rfl, ?_, ?_, fun j hj => ?_⟩
      · exact World.block_lt_of_cell? W _ hz
      · exact World.block_lt_of_cell? W _ hz
      · rw [e1] at hj
        have := (hq j hj).1
        rw [addr_at] at this
        rw [this]
        simp [List.getD, hj]
    · obtain ⟨i, hi, rfl⟩ := List.mem_map.1 hx
      exact (hq i (List.mem_range.1 hi)).2
theorem ints_of {H : Type} {enc : TypeId × Value → H} {W : World} {base : Nat} {v : Value} {d : DataW H} {p : List MemPlace} {held : Bool}
    (h : DataW.Trod enc Try.prog W base (fun _ => true) held 52 v d p) (hv : ∃ ao len cap, v = .slice ao len cap) (hwt : ∀ u ∈ d.weights Try.prog 52, u ≤ reachBytes) : ∃ ch, ChOk W v ch := by
  obtain ⟨ao, len, cap, rfl⟩ := hv
  obtain ⟨fuel, hf⟩ := h
  exact trod_ints (c := .slice ao len cap) (by simpa [Value.cells] using hf) hwt
end Go.Proofs.Ytnecbbflcpngcaa
