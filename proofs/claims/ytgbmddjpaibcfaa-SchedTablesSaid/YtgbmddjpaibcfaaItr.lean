/- The iterator over the windows of a major frame. Conditions: windows that may be, a beginning that is no greater than 2^41. -/
import Derived.RangeFuncNested
import Derived.RangeFuncBound
import Derived.RangeFuncCalls
import Derived.RangeFuncLeaves
import Derived.Shelf.Abstract
import Derived.Shelf.RegionOpen
import Derived.OwnWalkIn
import Derived.TacticsInMore
import Derived.LoopNIn
import Derived.LoopIn
import Derived.Test.YtgbmddjpaibcfaaChk
namespace Go.Proofs.Ytgbmddjpaibcfaa
open Go.RowKit Go.Maps Go.Shelf
set_option linter.unusedVariables false
attribute [local go_sem] Oper.semAt_some

/-- the blocks K are as they were -/
def KS (K : Nat → Prop) (W W' : World) : Prop := W.heap.size ≤ W'.heap.size ∧ ∀ k, k < W.heap.size → K k → W'.heap[k]? = W.heap[k]?
theorem KS.refl (K : Nat → Prop) (W : World) : KS K W W := ⟨Nat.le_refl _, fun _ _ _ => rfl⟩
theorem KS.trans {K : Nat → Prop} {A B C : World} (h : KS K A B) (k : KS K B C) : KS K A C := ⟨Nat.le_trans h.1 k.1, fun i hi hK => (k.2 i (Nat.lt_of_lt_of_le hi h.1) hK).trans (h.2 i hi hK)⟩
theorem KS.cell {K : Nat → Prop} {W W' : World} (h : KS K W W') {b o : Nat} {v : Value} (hb : K b) (hc : W.cell? ⟨b, o, none⟩ = some v) : W'.cell? ⟨b, o, none⟩ = some v := by
  have hlt : b < W.heap.size := block_lt_of_cell hc
  simp only [World.cell?, h.2 b hlt hb]; exact hc

/-! ### where windows begin -/
def tks (ws : List Wn) : List Nat := ws.map fun x => x.2.2.toNat
theorem tks_len (ws : List Wn) : (tks ws).length = ws.length := by simp [tks]
def bnd (ns : List Nat) (k : Nat) : Nat := (ns.take k).sum
theorem bnd_zero (ns : List Nat) : bnd ns 0 = 0 := by simp [bnd]
theorem bnd_succ (ns : List Nat) (k : Nat) (h : k < ns.length) : bnd ns (k + 1) = bnd ns k + ns[k] := by
  unfold bnd
  rw [List.take_succ_eq_append_getElem h, List.sum_append]
  simp
theorem bnd_all (ns : List Nat) : bnd ns ns.length = ns.sum := by unfold bnd; rw [List.take_length]
theorem bnd_mono (ns : List Nat) {i j : Nat} (h : i ≤ j) : bnd ns i ≤ bnd ns j := by
  obtain ⟨d, rfl⟩ := Nat.exists_eq_add_of_le h
  induction d with
  | zero => exact Nat.le_refl _
  | succ d ih =>
    refine Nat.le_trans (ih (by omega)) ?_
    by_cases hk : i + d < ns.length
    · rw [show i + (d + 1) = (i + d) + 1 by omega, bnd_succ ns (i + d) hk]; omega
    · unfold bnd; rw [List.take_of_length_le (by omega), List.take_of_length_le (by omega)]; exact Nat.le_refl _
theorem bnd_le (ns : List Nat) (h : ∀ n ∈ ns, n ≤ 255) : ∀ k, bnd ns k ≤ 255 * k
  | 0 => by rw [bnd_zero]; omega
  | k + 1 => by
    have ih := bnd_le ns h k
    by_cases hk : k < ns.length
    · have := h _ (List.getElem_mem hk)
      rw [bnd_succ ns k hk]; omega
    · have e : bnd ns (k + 1) = bnd ns k := by unfold bnd; rw [List.take_of_length_le (by omega), List.take_of_length_le (by omega)]
      rw [e]; omega
theorem tks_le {ws : List Wn} (h : okL ws) : ∀ n ∈ tks ws, 1 ≤ n ∧ n ≤ 255 := by
  intro n hn
  obtain ⟨p, hp, rfl⟩ := List.mem_map.1 hn
  have := h.2.2 p hp
  unfold okW at this
  omega
theorem bnd_ok {ws : List Wn} (h : okL ws) (k : Nat) (hk : k ≤ ws.length) : bnd (tks ws) k ≤ 16320 := by
  have := bnd_le (tks ws) (fun n hn => (tks_le h n hn).2) k
  have := h.2.1
  omega
theorem tks_get {ws : List Wn} (h : okL ws) (i : Nat) (hi : i < ws.length) : (ws.getD i w0).2.2 = (((tks ws)[i]'(by rw [tks_len]; exact hi) : Nat) : Int) ∧ 1 ≤ (tks ws)[i]'(by rw [tks_len]; exact hi) ∧ (tks ws)[i]'(by rw [tks_len]; exact hi) ≤ 255 := by
  have e : (tks ws)[i]'(by rw [tks_len]; exact hi) = (ws.getD i w0).2.2.toNat := by
    rw [List.getD_eq_getElem?_getD, List.getElem?_eq_getElem hi]; simp [tks]
  have := tks_le h _ (List.getElem_mem (show i < (tks ws).length by rw [tks_len]; exact hi))
  rw [e] at this ⊢
  omega
/-- what is handed over in round i -/
def encS (ws : List Wn) (b i : Nat) : Array Value :=
  #[.int .i64 (i : Int), .agg #[.int .i64 (ws.getD i w0).1, .int .i64 (ws.getD i w0).2.1, .int .i64 (ws.getD i w0).2.2, .int .i64 ((b + bnd (tks ws) i : Nat) : Int), .int .i64 ((b + bnd (tks ws) (i + 1) : Nat) : Int)]]
abbrev Ix (ws : List Wn) := {i : Nat // i < ws.length}
theorem range_snoc {ws : List Wn} {pre : List (Ix ws)} {i : Nat} (h : pre.map (·.1) = List.range i) (x : Ix ws) (hx : x.1 = i) : (pre ++ [x]).map (·.1) = List.range (i + 1) := by
  rw [List.map_append, h, List.range_succ, List.map_cons, hx]; rfl
set_option maxRecDepth 100000 in
set_option maxHeartbeats 4000000 in
theorem spans1_in (n : Nat) (hn : 1 ≤ n) (l Bb Bt : Nat) (K G : Nat → Prop) (hKb : K Bb) (hKt : K Bt) (hG : ∀ k, G k → K k) (b : Nat) (hb : b ≤ 2199023255552) (v : Value) (ws : List Wn) (hok : okL ws)
    (J Jx : List (Ix ws) → World → Prop) (W : World) (hJ : AbidesFrom W.heap.size J)
    (hY : ∀ pre x W, J pre W → pre.length < ws.length → YieldAt Fence.wide (n - 1) Try.prog l (encS ws b x.1) W fun e W' =>
      (e = .returned (.bool true) ∧ J (pre ++ [x]) W' ∧ KS K W W') ∨ (e = .returned (.bool false) ∧ Jx (pre ++ [x]) W'))
    (hBb : W.cell? ⟨Bb, 0, none⟩ = some (.int .i64 (b : Int))) (hBt : W.cell? ⟨Bt, 0, none⟩ = some v) (hT : WinV G W v ws) (h0 : J [] W) :
    CallsIn Fence.wide n Try.prog 44 #[.func (.yield l) #[] #[], .pointer (some ⟨Bb, 0, none⟩), .pointer (some ⟨Bt, 0, none⟩)] W fun e W' => (∃ v, e = .returned v) ∧
      ((∃ ys : List (Ix ws), ys.map (·.1) = List.range ws.length ∧ J ys W') ∨ (∃ pre : List (Ix ws), (∃ j, pre.map (·.1) = List.range j) ∧ Jx pre W')) := by
  obtain ⟨q, np, cap0, rfl⟩ : ∃ q n cap, v = .slice q n cap := by obtain ⟨q, cap, e, _⟩ := hT; exact ⟨_, _, _, e⟩
  have hnp : np = ws.length := by obtain ⟨q, cap, e, e2, _⟩ := hT; injection e with _ e3 e4
  have hnp64 : np ≤ 64 := by have := hok.2.1; omega
  have H := Lib.hid (And.intro hY (And.intro hT (And.intro hnp (And.intro hok hG))))
  have HJ := Lib.hid hJ
  clear hY hT hnp hok hG hJ
  refine callsIn_of_wp Try.func44 rfl trivial ?_ rfl
  simp only [Try.ntmps44, List.size_toArray, List.length_cons, List.length_nil, Nat.reduceAdd, Nat.reduceSub, Array.replicate_succ, Array.replicate_zero, List.push_toArray, List.append_toArray, List.nil_append, List.cons_append]
  gi_wp2
  gi_loopw [4, 11] (fun a c wr => ∃ (pre : List (Ix ws)) (i s : Nat), a = .int .i64 (s : Int) ∧ s = b + bnd (tks ws) i ∧ c = .int .i64 (i : Int) ∧ i ≤ np ∧ pre.map (·.1) = List.range i ∧ J pre wr ∧ KS K W wr)
    (fun _ c _ => np - (intOf c).toNat)
  case atStart => exact ⟨[], 0, b, rfl, by rw [bnd_zero]; rfl, rfl, Nat.zero_le _, rfl, h0, KS.refl _ _⟩
  case round =>
    obtain ⟨pre, i, s, rfl, hs, rfl, hi, hp, hJs, hks⟩ := hrel
    by_cases a : i < np
    · have aI : (i : Int) < (np : Int) := by omega
      obtain ⟨g, o, hq, c0, c1, c2⟩ : ∃ g o, q = some ⟨g, o, none⟩ ∧ wr.cell? ⟨g, o + i * 3, none⟩ = some (.int .i64 (ws.getD i w0).1) ∧ wr.cell? ⟨g, o + i * 3 + 1, none⟩ = some (.int .i64 (ws.getD i w0).2.1) ∧ wr.cell? ⟨g, o + i * 3 + 2, none⟩ = some (.int .i64 (ws.getD i w0).2.2) := by
        have hT := H.out.2.1.of_heap (w' := wr) hks.1 (fun k hk hG => hks.2 k hk (H.out.2.2.2.2 k hG))
        obtain ⟨q', cap', e1, e2, hc⟩ := hT
        injection e1 with e3 e4 e5
        have hne : ws ≠ [] := fun e => by rw [e] at e4; simp at e4; omega
        obtain ⟨b, o, hq, hGb, hlt, hcell⟩ := hc hne
        exact ⟨b, o, e3.trans hq, hcell i (by omega)⟩
      subst hq
      have hil : i < ws.length := by rw [← H.out.2.2.1]; exact a
      obtain ⟨hg1, hg2, hg3⟩ := tks_get H.out.2.2.2.1 i hil
      have hbk := bnd_ok H.out.2.2.2.1 i (by omega)
      have hbs := bnd_succ (tks ws) i (by rw [tks_len]; exact hil)
      obtain ⟨m, hm⟩ : ∃ m : Nat, m = (tks ws)[i]'(by rw [tks_len]; exact hil) := ⟨_, rfl⟩
      rw [← hm] at hg1 hg2 hg3 hbs
      rw [hg1] at c2
      obtain ⟨x, hx⟩ : ∃ x : Ix ws, x.1 = i := ⟨⟨i, hil⟩, rfl⟩
      obtain ⟨f, hf⟩ : ∃ f, f = (ws.getD i w0).1 := ⟨_, rfl⟩
      obtain ⟨r, hr⟩ : ∃ r, r = (ws.getD i w0).2.1 := ⟨_, rfl⟩
      have hJx : J pre (wr.alloc (.cells #[.int .i64 f, .int .i64 r, .int .i64 (m : Int)] 40)) := HJ.out _ _ _ none hJs (World.grownBy_alloc wr _ none) (fun r e => by cases e)
      have hkx : KS K W (wr.alloc (.cells #[.int .i64 f, .int .i64 r, .int .i64 (m : Int)] 40)) := hks.trans ⟨(World.grownBy_alloc wr _ none).size, fun k hk _ => Below.heap_alloc _ _ _ hk⟩
      have hlen : pre.length < ws.length := by
        have := congrArg List.length hp
        rw [List.length_map, List.length_range] at this
        omega
      obtain ⟨fn, tmps, assign, body, hy, hR⟩ := H.out.1 pre x _ hJx hlen
      rw [hx] at hy
      dsimp only [encS] at hy
      obtain ⟨s2, hs2⟩ : ∃ s2 : Nat, s2 = s + m := ⟨_, rfl⟩
      rw [hg1, hbs, show b + (bnd (tks ws) i + m) = s2 by omega, ← hs, ← hf, ← hr] at hy
      rw [← hf] at c0
      rw [← hr] at c1
      have q1 : IntKind.i64.wrap ((s : Int) + (m : Int)) = (s2 : Int) := by rw [IntWalk.i64_in _ (by omega)]; omega
      have HG := Lib.hid (And.intro hp (And.intro hx (And.intro hkx (And.intro hs (And.intro hs2 (And.intro hbs hbk))))))
      clear hp hkx hJx hJs hks hlen hs hs2 hbs hbk hm hf hr hg1 hg2 hg3 hil hx
      gi_wp2
      refine hR.mono ?_
      rintro e W3 (⟨rfl, hJ3, hk3⟩ | ⟨rfl, hJx3⟩)
      · gi_wp2
        obtain ⟨hp, hx, hkx, hs, hs2, hbs, hbk⟩ := HG.out
        refine ⟨⟨pre ++ [x], i + 1, s2, rfl, ?_, by simp, a, range_snoc hp x hx, hJ3, hkx.trans hk3⟩, by simp [intOf]; omega⟩
        rw [hbs, hs2, hs, Nat.add_assoc]
      · gi_wp2
        refine bodyPost_ret (results_none rfl _ _ _) rfl ?_
        exact ⟨⟨_, rfl⟩, .inr ⟨_, ⟨i + 1, range_snoc HG.out.1 x HG.out.2.1⟩, hJx3⟩⟩
    · obtain rfl : i = np := by omega
      have HE := Lib.hid (And.intro hp (And.intro hJs hks))
      clear hp hJs hks
      gi_wp2
      go_end0
      exact ⟨⟨_, rfl⟩, .inl ⟨pre, by rw [HE.out.1, H.out.2.2.1], HE.out.2.1⟩⟩
theorem spans_stops (n : Nat) (hn : 1 ≤ n) (Bb Bt s : Nat) (G : Nat → Prop) (b : Nat) (hb : b ≤ 2199023255552) (v : Value) (ws : List Wn) (hok : okL ws) (w : World) (hBb : w.cell? ⟨Bb, 0, none⟩ = some (.int .i64 (b : Int))) (hBt : w.cell? ⟨Bt, 0, none⟩ = some v) (hT : WinV (fun k => G k ∧ k < s) w v ws) :
    SeqStopsK Fence.wide n Try.prog 44 #[.pointer (some ⟨Bb, 0, none⟩), .pointer (some ⟨Bt, 0, none⟩)] (fun x : Ix ws => encS ws b x.1) (KS (fun k => (G k ∧ k < s) ∨ k = Bb ∨ k = Bt))
      (fun ys => ys.map (·.1) = List.range ws.length) (fun pre => ∃ j, pre.map (·.1) = List.range j) ws.length w := fun l J Jx W hW hJ _ hY h0 =>
  spans1_in n hn l Bb Bt (fun k => (G k ∧ k < s) ∨ k = Bb ∨ k = Bt) (fun k => G k ∧ k < s) (.inr (.inl rfl)) (.inr (.inr rfl)) (fun k hk => .inl hk) b hb v ws hok J Jx W hJ hY (cell_below hBb hW) (cell_below hBt hW) (hT.below hW) h0
theorem spans_any (n : Nat) (w : World) (q : Option Addr) (m cap : Nat) (b : Int) : CallsIn Fence.wide n Try.prog 32 #[.slice q m cap, .int .i64 b] w fun e w' => e = .returned (.func (.func 44) #[] #[.pointer (some ⟨w.heap.size + 1, 0, none⟩), .pointer (some ⟨w.heap.size, 0, none⟩)]) ∧ w' = (w.alloc (.cells #[.slice q m cap] 22)).alloc (.cells #[.int .i64 b] 3) := by
  refine callsIn_of_wp Try.func32 rfl trivial ?_ rfl
  simp only [Try.ntmps32, List.size_toArray, List.length_cons, List.length_nil, Nat.reduceAdd, Nat.reduceSub, Array.replicate_succ, Array.replicate_zero, List.push_toArray, List.append_toArray, List.nil_append, List.cons_append]
  gi_wp2
  go_ret
  exact ⟨rfl, rfl⟩
end Go.Proofs.Ytgbmddjpaibcfaa
