/- Expressions that came in, as they lie in memory. Conditions: no list is longer than a machine holds. -/
import Derived.Test.YtdmajbdgjjmlkaaFxd
import Derived.ProofKit
import Derived.OpenShut
import Derived.ChangeOld
import Derived.SizedLaws
import Derived.ChangeSlices
import Derived.Deep.Slices

set_option linter.constructorNameAsVariable false
namespace Go.Proofs.Ytdmajbdgjjmlkaa
open Go.ChangeShapes Go.WideShapes Go.ChangeAt Go.RowKit Go.Deep
set_option linter.unusedVariables false

theorem Try.cellsOf3 : Try.prog.cellsOf 3 = 1 := by kernel_rfl
theorem Try.cellsOf22 : Try.prog.cellsOf 22 = 1 := by kernel_rfl
theorem Try.cellsOf23 : Try.prog.cellsOf 23 = 4 := by kernel_rfl
theorem Try.cellsOf24 : Try.prog.cellsOf 24 = 1 := by kernel_rfl
theorem Try.cellsOf26 : Try.prog.cellsOf 26 = 8 := by kernel_rfl
theorem Try.bytesOf26 : Try.prog.bytesOf 26 = 80 := by kernel_rfl
theorem wf_u64 {a : Int} (h : (Lit.int IntKind.u64 a).wf = true) : 0 ≤ a ∧ a < 18446744073709551616 := by
  simp [Lit.wf, IntKind.max, IntKind.min, IntKind.signed, IntKind.bits] at h
  omega
theorem trod_set {H : Type} {enc : TypeId × Value → H} {w : World} {base : Nat} {spare : Nat → Bool} {held : Bool} {fuel : Nat} {c0 c1 c2 c3 : Value} {x : DataW H × List MemPlace}
    (h : DataW.trod enc Try.prog w base spare held fuel 23 [c0, c1, c2, c3] = some x) : ∃ s0 s1 s2 s3 : Int, c0 = .int .u64 s0 ∧ c1 = .int .u64 s1 ∧ c2 = .int .u64 s2 ∧ c3 = .int .u64 s3 ∧
      ((0 ≤ s0 ∧ s0 < 18446744073709551616) ∧ (0 ≤ s1 ∧ s1 < 18446744073709551616) ∧ (0 ≤ s2 ∧ s2 < 18446744073709551616) ∧ (0 ≤ s3 ∧ s3 < 18446744073709551616)) := by
  obtain ⟨xs, m, _, rfl, hl, hlen, hf⟩ := DataW.trod_array Try.underlying23 h
  match xs, hlen with
  | [y0, y1, y2, y3], _ =>
    rw [Try.cellsOf22] at hf
    have h0 := hf 0 (by omega)
    have h1 := hf 1 (by omega)
    have h2 := hf 2 (by omega)
    have h3 := hf 3 (by omega)
    simp at h0 h1 h2 h3
    obtain ⟨a0, e0, _, w0⟩ := DataW.trod_int Try.underlying22 h0
    obtain ⟨a1, e1, _, w1⟩ := DataW.trod_int Try.underlying22 h1
    obtain ⟨a2, e2, _, w2⟩ := DataW.trod_int Try.underlying22 h2
    obtain ⟨a3, e3, _, w3⟩ := DataW.trod_int Try.underlying22 h3
    cases e0
    cases e1
    cases e2
    cases e3
    refine ⟨a0, a1, a2, a3, rfl, rfl, rfl, rfl, ?_⟩
    exact ⟨wf_u64 w0, wf_u64 w1, wf_u64 w2, wf_u64 w3⟩
theorem mem_all {H : Type} {P : Program} {e : TypeId} : ∀ {ds : List (DataW H)} {d : DataW H}, d ∈ ds → ∀ n ∈ d.weights P e, n ∈ DataW.weightsAll P e ds
  | [], _, h, _, _ => by cases h
  | x :: r, d, h, n, hn => by
    rw [DataW.weightsAll, List.mem_append]
    rcases List.mem_cons.1 h with rfl | h
    · exact .inl hn
    · exact .inr (mem_all h n hn)
theorem okL_of : ∀ (l : List Rx), (∀ (i : Nat) (h : i < l.length), okR l[i]) → okL l
  | [], _ => by simp [okL]
  | x :: l, h => by
    rw [okL]
    exact ⟨h 0 (by simp), okL_of l (fun i hi => h (i + 1) (by simpa using hi))⟩
set_option maxRecDepth 100000 in
theorem trod_rx {H : Type} {enc : TypeId × Value → H} {W : World} {base : Nat} {held : Bool} : ∀ (fuel : Nat) (cs : List Value) (x : DataW H × List MemPlace),
    DataW.trod enc Try.prog W base (fun _ => true) held fuel 26 cs = some x → (∀ u ∈ x.1.weights Try.prog 26, u ≤ reachBytes) → ∃ t sv, cs = (t.cells sv).toList ∧ LiesL (fun _ => True) W sv t.list ∧ okR t := by
  intro fuel
  induction fuel using Nat.strongRecOn with
  | _ fuel ih =>
    intro cs x h hwt
    obtain ⟨xs, n, hn, rfl, hl, hlen, hf⟩ := DataW.trod_struct Try.underlying26 h
    rw [Try.cellsOf26] at hl
    match cs, hl with
    | [c0, c1, c2, c3, c4, c5, c6, c7], _ =>
      match xs, hlen with
      | [y0, y1, y2, y3, y4], _ =>
        have h0 : DataW.trod enc Try.prog W base (fun _ => true) held n 3 (([c0, c1, c2, c3, c4, c5, c6, c7].drop 0).take (Try.prog.cellsOf 3)) = [y0, y1, y2, y3, y4][0]? := hf 0 _ rfl
        have h1 : DataW.trod enc Try.prog W base (fun _ => true) held n 3 (([c0, c1, c2, c3, c4, c5, c6, c7].drop 1).take (Try.prog.cellsOf 3)) = [y0, y1, y2, y3, y4][1]? := hf 1 _ rfl
        have h2 : DataW.trod enc Try.prog W base (fun _ => true) held n 3 (([c0, c1, c2, c3, c4, c5, c6, c7].drop 2).take (Try.prog.cellsOf 3)) = [y0, y1, y2, y3, y4][2]? := hf 2 _ rfl
        have h3 : DataW.trod enc Try.prog W base (fun _ => true) held n 23 (([c0, c1, c2, c3, c4, c5, c6, c7].drop 3).take (Try.prog.cellsOf 23)) = [y0, y1, y2, y3, y4][3]? := hf 3 _ rfl
        have h4 : DataW.trod enc Try.prog W base (fun _ => true) held n 24 (([c0, c1, c2, c3, c4, c5, c6, c7].drop 7).take (Try.prog.cellsOf 24)) = [y0, y1, y2, y3, y4][4]? := hf 4 _ rfl
        rw [Try.cellsOf3] at h0 h1 h2
        rw [Try.cellsOf23] at h3
        rw [Try.cellsOf24] at h4
        simp at h0 h1 h2 h3 h4
        obtain ⟨k, e0, _, _⟩ := DataW.trod_int Try.underlying3 h0
        cases e0
        obtain ⟨mn, e1, _, _⟩ := DataW.trod_int Try.underlying3 h1
        cases e1
        obtain ⟨mx, e2, _, _⟩ := DataW.trod_int Try.underlying3 h2
        cases e2
        obtain ⟨s0, s1, s2, s3, rfl, rfl, rfl, rfl, hs⟩ := trod_set h3
        have hw4 : ∀ u ∈ y4.1.weights Try.prog 24, u ≤ reachBytes := fun u hu => hwt u (by
          rw [DataW.weights, Try.underlying26]
          exact DataW.weights_mem_each (j := 4) rfl rfl u hu)
        rcases DataW.trod_slice Try.underlying24 h4 with ⟨hcs, _⟩ | ⟨a, len, cap, elems, rest, m, hm, hcs, hx, hb, hlc, hcm, hel, hev, _, _⟩
        · simp at hcs
          subst hcs
          exact ⟨.mk k mn mx s0 s1 s2 s3 [], .slice none 0 0, rfl, LiesL.nil _ _, by rw [okR]; exact ⟨hs, by simp [okL]⟩⟩
        · simp at hcs
          subst hcs
          rw [hx, DataW.weights, Try.underlying24] at hw4
          have hfew : (elems.length + rest.length) * Try.prog.bytesOf 26 ≤ reachBytes := by
            have := hw4 _ (List.mem_cons_self ..)
            simpa using this
          rw [Try.bytesOf26] at hfew
          have hR := reachBytes_lt
          have each : ∀ i, i < len → ∃ q : Rx × Value, (∀ j u, (q.1.cells q.2)[j]? = some u → W.cell? (a.add (i * 8 + j)) = some u) ∧ a.block < W.heap.size ∧ LiesL (fun _ => True) W q.2 q.1.list ∧ okR q.1 := by
            intro i hi
            have he := hev i hi
            rw [Try.cellsOf26] at he
            obtain ⟨cs', hc', ht'⟩ := Option.bind_eq_some_iff.1 (he.trans (List.getElem?_eq_getElem (by omega)))
            obtain ⟨t, sv, hcs', hlies, hok⟩ := ih m (by omega) cs' _ ht' (fun u hu => hw4 u (by
              refine List.mem_cons_of_mem _ (List.mem_append_left _ (mem_all (d := (elems[i]'(by omega)).1) ?_ u hu))
              exact List.mem_map.2 ⟨_, List.getElem_mem (by omega), rfl⟩))
            obtain ⟨_, hlen', hcell⟩ := World.cells?_some hc'
            refine ⟨(t, sv), fun j u hu => ?_, ?_, hlies, hok⟩
            · have hj : j < 8 := by
                have h9 : j < (t.cells sv).size := (Array.getElem?_eq_some_iff.1 hu).1
                have e : (t.cells sv).size = 8 := cells_len t sv
                omega
              have := hcell j hj
              rw [add_add'] at this
              rw [this, hcs']
              simpa using hu
            · have := hcell 0 (by omega)
              obtain ⟨c, hc0⟩ : ∃ c, cs'[0]? = some c := ⟨cs'[0]'(by omega), List.getElem?_eq_getElem (by omega)⟩
              rw [hc0] at this
              have := World.block_lt_of_cell? W _ this
              rwa [add_block, add_block] at this
          haveI : Inhabited (Rx × Value) := ⟨(.mk 0 0 0 0 0 0 0 [], .slice none 0 0)⟩
          obtain ⟨q, hq⟩ := choose_lt each
          have e1 : ((List.range len).map fun i => (q i).1).length = len := by simp
          refine ⟨.mk k mn mx s0 s1 s2 s3 ((List.range len).map fun i => (q i).1), .slice (some a) len cap, rfl, ?_, ?_⟩
          · have : LiesL (fun _ => True) W (.slice (some a) ((List.range len).map fun i => (q i).1).length cap) ((List.range len).map fun i => (q i).1) := by
              refine .mk (some a) cap _ (fun i => (q i).2) (by rw [e1]; omega) (fun i hi => ?_) (fun i hi => ?_)
              · have hi' : i < len := by rw [e1] at hi; exact hi
                refine ⟨a, rfl, trivial, (hq i hi').2.1, ?_⟩
                have e2 : ((List.range len).map fun i => (q i).1)[i] = (q i).1 := by simp
                rw [e2]
                exact (hq i hi').1
              · have hi' : i < len := by rw [e1] at hi; exact hi
                have e2 : ((List.range len).map fun i => (q i).1)[i] = (q i).1 := by simp
                rw [e2]
                exact (hq i hi').2.2.1
            rw [e1] at this
            exact this
          · rw [okR]
            refine ⟨hs, okL_of _ (fun i hi => ?_)⟩
            have hi' : i < len := by rw [e1] at hi; exact hi
            have e2 : ((List.range len).map fun i => (q i).1)[i] = (q i).1 := by simp
            rw [e2]
            exact (hq i hi').2.2.2
/-- an expression that came in -/
theorem rx_of {H : Type} {enc : TypeId × Value → H} {W : World} {base b0 : Nat} {v : Value} {d : DataW H} {p : List MemPlace} (hv : Value.okWide Try.prog W .any b0 26 v)
    (h : DataW.Trod enc Try.prog W base (fun _ => true) true 26 v d p) (hwt : ∀ u ∈ d.weights Try.prog 26, u ≤ reachBytes) : ∃ t sv, v = t.val sv ∧ LiesL (fun _ => True) W sv t.list ∧ okR t := by
  simp only [Value.okWide, Try.underlying26] at hv
  obtain ⟨cs, rfl, hs, _⟩ := hv
  obtain ⟨fuel, hf⟩ := h
  obtain ⟨t, sv, hc, hl, ho⟩ := trod_rx fuel _ _ hf hwt
  refine ⟨t, sv, ?_, hl, ho⟩
  have : cs.toList = (t.cells sv).toList := hc
  unfold Rx.val
  rw [← Array.toArray_toList (xs := cs), this]
end Go.Proofs.Ytdmajbdgjjmlkaa
