/- The iterator over the pieces of bytes at an address. Conditions: at most 16 pages, at most 4096 bytes. -/
import Derived.RangeFuncNested
import Derived.RangeFuncBound
import Derived.RangeFuncCalls
import Derived.RangeFuncLeaves
import Derived.Shelf.Abstract
import Derived.Shelf.RegionOpen
import Derived.OwnWalkIn
import Derived.TacticsInMore
import Derived.LoopNIn
import Derived.LoopIn
import Derived.Test.YtedhefidfepclaaCal
namespace Go.Proofs.Ytedhefidfepclaa
open Go.RowKit Go.Maps Go.Shelf
set_option linter.unusedVariables false
attribute [local go_sem] Oper.semAt_some

/-- the blocks K are as they were -/
def KS (K : Nat → Prop) (W W' : World) : Prop := W.heap.size ≤ W'.heap.size ∧ ∀ k, k < W.heap.size → K k → W'.heap[k]? = W.heap[k]?
theorem KS.refl (K : Nat → Prop) (W : World) : KS K W W := ⟨Nat.le_refl _, fun _ _ _ => rfl⟩
theorem KS.trans {K : Nat → Prop} {A B C : World} (h : KS K A B) (k : KS K B C) : KS K A C := ⟨Nat.le_trans h.1 k.1, fun i hi hK => (k.2 i (Nat.lt_of_lt_of_le hi h.1) hK).trans (h.2 i hi hK)⟩
theorem KS.cell {K : Nat → Prop} {W W' : World} (h : KS K W W') {b o : Nat} {v : Value} (hb : K b) (hc : W.cell? ⟨b, o, none⟩ = some v) : W'.cell? ⟨b, o, none⟩ = some v := by
  have hlt : b < W.heap.size := block_lt_of_cell hc
  simp only [World.cell?, h.2 b hlt hb]; exact hc
def encP (x : Pc) : Array Value := #[.agg #[.int .i64 x.f, .int .i64 x.r, .int .i64 (x.a : Int), .int .i64 (x.b : Int)]]
def In64 (x : Int) : Prop := -9223372036854775808 ≤ x ∧ x < 9223372036854775808
set_option maxRecDepth 100000 in
set_option maxHeartbeats 4000000 in
theorem pieces1_in (n : Nat) (hn : 1 ≤ n) (l Ba Bn Bt : Nat) (K G : Nat → Prop) (hKa : K Ba) (hKn : K Bn) (hKt : K Bt) (hG : ∀ k, G k → K k)
    (at0 : Int) (n0 : Nat) (hat : In64 at0) (hn0 : n0 ≤ 4096) (v : Value) (ps : List Pg) (hps : ps.length ≤ 16) (Q : Pc → Prop) (hQ : ∀ pre at' m, Gone ps at0 n0 pre at' m → 0 < m → Q (cur ps at' m))
    (J Jx : List {x : Pc // Q x} → World → Prop) (W : World) (hJ : AbidesFrom W.heap.size J)
    (hY : ∀ pre x W, J pre W → pre.length < n0 → YieldAt Fence.wide (n - 1) Try.prog l (encP x.1) W fun e W' =>
      (e = .returned (.bool true) ∧ J (pre ++ [x]) W' ∧ KS K W W') ∨ (e = .returned (.bool false) ∧ Jx (pre ++ [x]) W'))
    (hBa : W.cell? ⟨Ba, 0, none⟩ = some (.int .i64 at0)) (hBn : W.cell? ⟨Bn, 0, none⟩ = some (.int .i64 (n0 : Int))) (hBt : W.cell? ⟨Bt, 0, none⟩ = some v) (hT : TabV G W v ps) (h0 : J [] W) :
    CallsIn Fence.wide n Try.prog 78 #[.func (.yield l) #[] #[], .pointer (some ⟨Ba, 0, none⟩), .pointer (some ⟨Bn, 0, none⟩), .pointer (some ⟨Bt, 0, none⟩)] W fun e W' => (∃ v, e = .returned v) ∧
      ((∃ ys : List {x : Pc // Q x}, AllP ps at0 n0 (ys.map (·.1)) ∧ J ys W') ∨ (∃ pre : List {x : Pc // Q x}, SomeP ps at0 n0 (pre.map (·.1)) ∧ Jx pre W')) := by
  obtain ⟨q, np, cap0, rfl⟩ : ∃ q n cap, v = .slice q n cap := by obtain ⟨q, cap, e, _⟩ := hT; exact ⟨_, _, _, e⟩
  obtain ⟨hnp, hcap⟩ : np = ps.length ∧ np ≤ cap0 := by obtain ⟨q, cap, e, e2, _⟩ := hT; injection e with _ e3 e4; subst e3 e4; exact ⟨rfl, e2⟩
  have H := Lib.hid (And.intro hQ (And.intro hY (And.intro hBt (And.intro hT (And.intro hnp (And.intro hps hcap))))))
  have HK := Lib.hid (And.intro hKa (And.intro hKn (And.intro hKt hG)))
  have hnp16 : np ≤ 16 := by omega
  clear hQ hY hT hnp hps hG hKa hKn hcap
  refine callsIn_of_wp Try.func78 rfl trivial ?_ rfl
  simp only [Try.ntmps78, List.size_toArray, List.length_cons, List.length_nil, Nat.reduceAdd, Nat.reduceSub, Array.replicate_succ, Array.replicate_zero, List.push_toArray, List.append_toArray, List.nil_append, List.cons_append]
  gi_wp2
  gi_quiet (fail)
  have hks0 : KS K W (W.drewN nq) := ⟨Nat.le_refl _, fun _ _ _ => rfl⟩
  have hBa' : (W.drewN nq).cell? ⟨Ba, 0, none⟩ = some (.int .i64 at0) := hBa
  have hJ0 : J [] (W.drewN nq) := hJ _ _ _ none h0 ⟨rfl, rfl, rfl, Nat.le_refl _, fun _ _ _ => rfl⟩ (fun r e => by cases e)
  clear hJ h0
  gi_wp2
  gi_loopw [5, 6] (fun a b wr => ∃ (pre : List {x : Pc // Q x}) (at' : Int) (m : Nat), a = .int .i64 at' ∧ b = .int .i64 (m : Int) ∧ Gone ps at0 n0 (pre.map (·.1)) at' m ∧ J pre wr ∧ KS K W wr)
    (fun _ b _ => (intOf b).toNat)
  case atStart => exact ⟨[], at0, n0, rfl, rfl, .start, hJ0, hks0⟩
  case round =>
    obtain ⟨pre, at', m, rfl, rfl, hg, hJs, hks⟩ := hrel
    clear hJ0
    by_cases hm : 0 < m
    · have hT := H.out.2.2.2.1.of_heap (w' := wr) hks.1 (fun k hk hG => hks.2 k hk (HK.out.2.2.2 k hG))
      have hBt := hks.cell HK.out.2.2.1 H.out.2.2.1
      have hlen := hg.len
      rw [List.length_map] at hlen
      have hbd := hg.bound
      rw [← H.out.2.2.2.2.1] at hbd
      by_cases ho : out ps at'
      · have ec : cur ps at' m = ⟨-1, 0, 0, 0⟩ := if_pos ho
        obtain ⟨x, hx⟩ : ∃ x : {x : Pc // Q x}, x.1 = cur ps at' m := ⟨⟨_, H.out.1 _ _ _ hg hm⟩, rfl⟩
        obtain ⟨fn, tmps, assign, body, hy, hR⟩ := H.out.2.1 pre x wr hJs (by omega)
        have HG := Lib.hid (And.intro hg (And.intro ho hx))
        have ho' : at' < 0 ∨ 256 * (np : Int) ≤ at' := by rw [H.out.2.2.2.2.1]; exact ho
        rw [hx, ec] at hy
        dsimp only [encP] at hy
        rw [show ((0 : Nat) : Int) = 0 from rfl] at hy
        clear ho hT hbd hlen ec hx hg
        gi_wp2
        all_goals
          refine hR.mono ?_
          rintro e W3 (⟨rfl, hJ3, hk3⟩ | ⟨rfl, hJx3⟩)
          · gi_wp2
            refine bodyPost_ret (results_none rfl _ _ _) rfl ?_
            exact ⟨⟨_, rfl⟩, .inl ⟨_, ⟨_, _, _, HG.out.1, .inr ⟨hm, HG.out.2.1, by rw [List.map_append, List.map_cons, List.map_nil, HG.out.2.2]⟩⟩, hJ3⟩⟩
          · gi_wp2
            refine bodyPost_ret (results_none rfl _ _ _) rfl ?_
            exact ⟨⟨_, rfl⟩, .inr ⟨_, ⟨_, _, _, HG.out.1, hm, by rw [List.map_append, List.map_cons, List.map_nil, HG.out.2.2]⟩, hJx3⟩⟩
      · obtain ⟨x, hx⟩ : ∃ x : {x : Pc // Q x}, x.1 = cur ps at' m := ⟨⟨_, H.out.1 _ _ _ hg hm⟩, rfl⟩
        obtain ⟨fn, tmps, assign, body, hy, hR⟩ := H.out.2.1 pre x wr hJs (by omega)
        have ho' : 0 ≤ at' ∧ at' < 256 * (np : Int) := by have := ho; unfold out at this; rw [← H.out.2.2.2.2.1] at this; omega
        obtain ⟨A, rfl⟩ : ∃ A : Nat, at' = (A : Int) := ⟨at'.toNat, by omega⟩
        have ec : cur ps A m = ⟨(pg ps A).1, (pg ps A).2, ((A : Int) % 256).toNat, ((A : Int) % 256).toNat + ext A m⟩ := if_neg ho
        have hstep := hg.step hm ho
        have hep := ext_pos (at' := (A : Int)) hm
        have hee : ext A m = min m (256 - ((A : Int) % 256).toNat) := rfl
        obtain ⟨fr, hfr⟩ : ∃ fr, fr = ((A : Int) % 256).toNat := ⟨_, rfl⟩
        obtain ⟨E, hE⟩ : ∃ E, E = ext A m := ⟨_, rfl⟩
        obtain ⟨pi, hpi⟩ : ∃ pi, pi = A / 256 := ⟨_, rfl⟩
        have emod : ((A : Int)).tmod 256 = (fr : Int) := by rw [Int.tmod_eq_emod_of_nonneg (by omega)]; omega
        have ediv : ((A : Int)).tdiv 256 = (pi : Int) := by rw [Int.tdiv_eq_ediv_of_nonneg (by omega)]; omega
        rw [← hfr, ← hE] at hee hep
        have emin : min ((fr : Int) + (m : Int)) 256 = ((fr + E : Nat) : Int) := by omega
        have hpl : pi < np := by omega
        have hmb : m ≤ 4096 := by omega
        have hAb : A < 4096 := by omega
        obtain ⟨q', cap', e1, e2, hc⟩ := hT
        injection e1 with e3 e4 e5
        have hne : ps ≠ [] := fun e => by rw [e] at e4; simp at e4; omega
        obtain ⟨b, o, hq, hGb, hlt, hcell⟩ := hc hne
        obtain ⟨c0, c1⟩ := hcell pi (by omega)
        have epg : ps.getD pi (0, 0) = pg ps A := by unfold pg; congr 1
        rw [epg] at c0 c1
        rw [← e3] at hq
        subst hq
        obtain ⟨f, hf⟩ : ∃ f, f = (pg ps A).1 := ⟨_, rfl⟩
        obtain ⟨r, hr⟩ : ∃ r, r = (pg ps A).2 := ⟨_, rfl⟩
        rw [hx, ec, ← hfr, ← hE, ← hf, ← hr] at hy
        rw [← hf] at c0
        rw [← hr] at c1
        dsimp only [encP] at hy
        rw [← hE] at hstep
        have HG := Lib.hid (And.intro hg (And.intro ho (And.intro hx hstep)))
        clear hg ho hbd hlen ec hx hstep hfr hE hpi hee e2 e3 e4 e5 hc hne hcell epg hf hr hlt hGb
        by_cases hmin : 256 < (fr : Int) + m
        · have hv : ((fr + E : Nat) : Int) = 256 := by omega
          rw [hv] at hy
          clear emin
          gi_wp2
          refine hR.mono ?_
          rintro e W3 (⟨rfl, hJ3, hk3⟩ | ⟨rfl, hJx3⟩)
          · gi_wp2
            go_roundw
            case rel =>
              refine ⟨pre ++ [x], (A : Int) + (E : Int), m - E, ?_, ?_, ?_, hJ3, hks.trans hk3⟩
              · exact congrArg (Value.int .i64) (by omega)
              · exact congrArg (Value.int .i64) (by omega)
              · rw [List.map_append, List.map_cons, List.map_nil, HG.out.2.2.1]; exact HG.out.2.2.2
            case measure => simp [intOf]; omega
          · gi_wp2
            refine bodyPost_ret (results_none rfl _ _ _) rfl ?_
            exact ⟨⟨_, rfl⟩, .inr ⟨_, ⟨_, _, _, HG.out.1, hm, by rw [List.map_append, List.map_cons, List.map_nil, HG.out.2.2.1]⟩, hJx3⟩⟩
        · have hv : ((fr + E : Nat) : Int) = (fr : Int) + m := by omega
          rw [hv] at hy
          clear emin
          gi_wp2
          refine hR.mono ?_
          rintro e W3 (⟨rfl, hJ3, hk3⟩ | ⟨rfl, hJx3⟩)
          · gi_wp2
            go_roundw
            case rel =>
              refine ⟨pre ++ [x], (A : Int) + (E : Int), m - E, ?_, ?_, ?_, hJ3, hks.trans hk3⟩
              · exact congrArg (Value.int .i64) (by omega)
              · exact congrArg (Value.int .i64) (by omega)
              · rw [List.map_append, List.map_cons, List.map_nil, HG.out.2.2.1]; exact HG.out.2.2.2
            case measure => simp [intOf]; omega
          · gi_wp2
            refine bodyPost_ret (results_none rfl _ _ _) rfl ?_
            exact ⟨⟨_, rfl⟩, .inr ⟨_, ⟨_, _, _, HG.out.1, hm, by rw [List.map_append, List.map_cons, List.map_nil, HG.out.2.2.1]⟩, hJx3⟩⟩
    · obtain rfl : m = 0 := by omega
      gi_wp2
      go_end0
      exact ⟨⟨_, rfl⟩, .inl ⟨pre, ⟨_, _, _, hg, .inl ⟨rfl, rfl⟩⟩, hJs⟩⟩
end Go.Proofs.Ytedhefidfepclaa
