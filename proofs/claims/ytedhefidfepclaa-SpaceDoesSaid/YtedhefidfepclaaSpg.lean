/- The iterator over parts and their pages. Conditions: at most 8 parts that may be. -/
import Derived.Test.YtedhefidfepclaaThr
import Derived.Test.YtedhefidfepclaaSpf
namespace Go.Proofs.Ytedhefidfepclaa
open Go.RowKit Go.Maps Go.Shelf
set_option linter.unusedVariables false
attribute [local go_sem] Oper.semAt_some

def nsP (ps : List Pg) : List Nat := ps.map fun p => p.2.toNat
theorem nsP_len (ps : List Pg) : (nsP ps).length = ps.length := by simp [nsP]
theorem bnd_le16 (ns : List Nat) (h : ∀ n ∈ ns, n ≤ 16) : ∀ k, bnd ns k ≤ 16 * k
  | 0 => Nat.zero_le _
  | k + 1 => by
    have ih := bnd_le16 ns h k
    by_cases hk : k < ns.length
    · have := h _ (List.getElem_mem hk)
      rw [bnd_succ ns k hk]; omega
    · have e : bnd ns (k + 1) = bnd ns k := by unfold bnd; rw [List.take_of_length_le (by omega), List.take_of_length_le (by omega)]
      rw [e]; omega
def encD (x : Nat × Nat) : Array Value := #[.int .i64 (x.1 : Int), .agg #[.int .i64 (x.2 : Int), .int .i64 3]]
abbrev Dlt (ps : List Pg) := {x : Nat × Nat // x ∈ dlt (nsP ps) ps.length}
set_option maxRecDepth 100000 in
set_option maxHeartbeats 4000000 in
theorem deal1_in (n : Nat) (hn : 1 ≤ n) (l Bp : Nat) (K G : Nat → Prop) (hKp : K Bp) (hG : ∀ k, G k → K k) (v : Value) (ps : List Pg) (hl : ps.length ≤ 8) (hok : ∀ p ∈ ps, okT p)
    (J Jx : List (Dlt ps) → World → Prop) (W : World) (hJ : AbidesFrom W.heap.size J)
    (hY : ∀ pre x W, J pre W → pre.length < (nsP ps).sum → YieldAt Fence.wide (n - 1) Try.prog l (encD x.1) W fun e W' =>
      (e = .returned (.bool true) ∧ J (pre ++ [x]) W' ∧ KS K W W') ∨ (e = .returned (.bool false) ∧ Jx (pre ++ [x]) W'))
    (hBp : W.cell? ⟨Bp, 0, none⟩ = some v) (hT : TabV G W v ps) (h0 : J [] W) :
    CallsIn Fence.wide n Try.prog 58 #[.func (.yield l) #[] #[], .pointer (some ⟨Bp, 0, none⟩)] W fun e W' => (∃ v, e = .returned v) ∧
      ((∃ ys : List (Dlt ps), ys.map (·.1) = dlt (nsP ps) ps.length ∧ J ys W') ∨ (∃ pre : List (Dlt ps), Jx pre W')) := by
  obtain ⟨q, np, cap0, rfl⟩ : ∃ q n cap, v = .slice q n cap := by obtain ⟨q, cap, e, _⟩ := hT; exact ⟨_, _, _, e⟩
  have hnp : np = ps.length := by obtain ⟨q, cap, e, e2, _⟩ := hT; injection e with _ e3 e4
  have H := Lib.hid (And.intro hY (And.intro hT (And.intro hnp (And.intro hok hG))))
  have HJ := Lib.hid hJ
  have hnp8 : np ≤ 8 := by omega
  clear hY hT hnp hl hok hG hJ
  refine callsIn_of_wp Try.func58 rfl trivial ?_ rfl
  simp only [Try.ntmps58, List.size_toArray, List.length_cons, List.length_nil, Nat.reduceAdd, Nat.reduceSub, Array.replicate_succ, Array.replicate_zero, List.push_toArray, List.append_toArray, List.nil_append, List.cons_append]
  gi_wp2
  gi_loopw [3, 8] (fun a b wr => ∃ (pre : List (Dlt ps)) (i : Nat), a = .int .i64 (bnd (nsP ps) i : Nat) ∧ b = .int .i64 (i : Int) ∧ i ≤ np ∧ pre.map (·.1) = dlt (nsP ps) i ∧ J pre wr ∧ KS K W wr)
    (fun _ b _ => np - (intOf b).toNat)
  case atStart => exact ⟨[], 0, rfl, rfl, Nat.zero_le _, rfl, h0, KS.refl _ _⟩
  case round =>
    obtain ⟨pre, i, rfl, rfl, hi, hp, hJs, hks⟩ := hrel
    by_cases a : i < np
    · have aI : (i : Int) < (np : Int) := by omega
      obtain ⟨b, o, hq, c0, c1⟩ : ∃ b o, q = some ⟨b, o, none⟩ ∧ wr.cell? ⟨b, o + i * 2, none⟩ = some (.int .i64 (ps.getD i (0, 0)).1) ∧ wr.cell? ⟨b, o + i * 2 + 1, none⟩ = some (.int .i64 (ps.getD i (0, 0)).2) := by
        have hT := H.out.2.1.of_heap (w' := wr) hks.1 (fun k hk hG => hks.2 k hk (H.out.2.2.2.2 k hG))
        obtain ⟨q', cap', e1, e2, hc⟩ := hT
        injection e1 with e3 e4 e5
        have hne : ps ≠ [] := fun e => by rw [e] at e4; simp at e4; omega
        obtain ⟨b, o, hq, hGb, hlt, hcell⟩ := hc hne
        exact ⟨b, o, e3.trans hq, hcell i (by omega)⟩
      subst hq
      have hil : i < ps.length := by rw [← H.out.2.2.1]; exact a
      have hgi : ps.getD i (0, 0) = ps[i] := by rw [List.getD_eq_getElem?_getD, List.getElem?_eq_getElem hil]; rfl
      have hokI := H.out.2.2.2.1 _ (List.getElem_mem hil)
      rw [← hgi] at hokI
      obtain ⟨m, hm⟩ : ∃ m : Nat, (ps.getD i (0, 0)).2 = (m : Int) := ⟨(ps.getD i (0, 0)).2.toNat, by have := hokI.1; omega⟩
      have hmn : (nsP ps).getD i 0 = m := by
        have e : (nsP ps).getD i 0 = (ps.getD i (0, 0)).2.toNat := by
          unfold nsP
          rw [List.getD_eq_getElem?_getD, List.getElem?_map, List.getD_eq_getElem?_getD, List.getElem?_eq_getElem hil]; rfl
        rw [e, hm]; rfl
      have hm16 : m ≤ 16 := by have := hokI.2.1; omega
      have hsum : bnd (nsP ps) i + m ≤ (nsP ps).sum := by
        have h1 := bnd_succ (nsP ps) i (by rw [nsP_len]; exact hil)
        have h2 := bnd_le (nsP ps) (i + 1)
        rw [List.getD_eq_getElem?_getD, List.getElem?_eq_getElem (by rw [nsP_len]; exact hil)] at hmn
        have h3 : (nsP ps)[i]'(by rw [nsP_len]; exact hil) = m := hmn
        omega
      obtain ⟨f, hf⟩ : ∃ f, f = (ps.getD i (0, 0)).1 := ⟨_, rfl⟩
      rw [hm] at c1
      rw [← hf] at c0
      have hJx : J pre (wr.alloc (.cells #[.int .i64 f, .int .i64 (m : Int)] 53)) := HJ.out _ _ _ none hJs (World.grownBy_alloc wr _ none) (fun r e => by cases e)
      have hkx : KS K W (wr.alloc (.cells #[.int .i64 f, .int .i64 (m : Int)] 53)) := hks.trans ⟨(World.grownBy_alloc wr _ none).size, fun k hk _ => Below.heap_alloc _ _ _ hk⟩
      have hbs : bnd (nsP ps) i ≤ 128 := by
        have := bnd_le16 (nsP ps) (fun n hn => by
          obtain ⟨p, hp, rfl⟩ := List.mem_map.1 hn
          have := (H.out.2.2.2.1 p hp).2.1
          omega) i
        omega
      obtain ⟨s0, hs0⟩ : ∃ s0, s0 = bnd (nsP ps) i := ⟨_, rfl⟩
      rw [← hs0] at hbs hsum
      have HE := Lib.hid (And.intro hp (And.intro hmn (And.intro hsum (And.intro hil hs0))))
      have HX := Lib.hid (And.intro hJx hkx)
      rw [← hs0]
      clear hp hmn hsum hil hs0 hgi hokI hm hf hJs hks hJx hkx
      gi_wp2
      gi_loopw [3, 15] (fun a b wr' => ∃ (pre' : List (Dlt ps)) (t j : Nat), a = .int .i64 (j : Int) ∧ j = s0 + t ∧ b = .int .i64 (t : Int) ∧ t ≤ m ∧ pre'.map (·.1) = dlt (nsP ps) i ++ rowD i s0 t ∧ J pre' wr' ∧ KS K W wr')
        (fun _ b _ => m - (intOf b).toNat)
      case atStart => exact ⟨pre, 0, s0, rfl, rfl, rfl, Nat.zero_le _, by rw [rowD_zero, List.append_nil, HE.out.1], HX.out.1, HX.out.2⟩
      case round =>
        obtain ⟨pre', t, j, rfl, hjt, rfl, ht, hp', hJ', hk'⟩ := hrel
        by_cases a2 : t < m
        · have a2I : (t : Int) < (m : Int) := by omega
          have hlen : pre'.length < (nsP ps).sum := by
            have := congrArg List.length hp'
            rw [List.length_map, List.length_append, rowD_len, dlt_len _ _ (by rw [nsP_len]; exact Nat.le_of_lt HE.out.2.2.2.1), ← HE.out.2.2.2.2] at this
            have := HE.out.2.2.1
            omega
          obtain ⟨x, hx⟩ : ∃ x : Dlt ps, x.1 = (i, j) := ⟨⟨(i, j), by
            rw [hjt, HE.out.2.2.2.2]
            exact dlt_sub _ _ (i + 1) (dlt_in _ _ _ (by rw [HE.out.2.1]; exact a2)) _ HE.out.2.2.2.1⟩, rfl⟩
          obtain ⟨fn, tmps, assign, body, hy, hR⟩ := H.out.1 pre' x _ hJ' hlen
          rw [hx] at hy
          dsimp only [encD] at hy
          have HG := Lib.hid (And.intro hp' (And.intro hx (And.intro hk' hjt)))
          have hj128 : j ≤ 144 := by omega
          clear hp' hx hk' hJ' hlen hjt
          gi_wp2
          refine hR.mono ?_
          rintro e W3 (⟨rfl, hJ3, hk3⟩ | ⟨rfl, hJx3⟩)
          · gi_wp2
            refine ⟨⟨pre' ++ [x], t + 1, j + 1, by simp, by rw [HG.out.2.2.2, Nat.add_assoc], by simp, a2, ?_, hJ3, HG.out.2.2.1.trans hk3⟩, by simp [intOf]; omega⟩
            rw [List.map_append, List.map_cons, List.map_nil, HG.out.1, HG.out.2.1, rowD_succ, HG.out.2.2.2, List.append_assoc]
          · gi_wp2
            refine bodyPost_ret (results_none rfl _ _ _) rfl ?_
            exact ⟨⟨_, rfl⟩, .inr ⟨_, hJx3⟩⟩
        · obtain rfl : t = m := by omega
          have HG := Lib.hid (And.intro hp' (And.intro hJ' (And.intro hk' hjt)))
          have hj128 : j ≤ 144 := by omega
          clear hp' hJ' hk' hjt
          gi_wp2
          have hb1 := bnd_succ (nsP ps) i (by rw [nsP_len]; exact HE.out.2.2.2.1)
          have hg1 : (nsP ps)[i]'(by rw [nsP_len]; exact HE.out.2.2.2.1) = t := by
            have h3 := HE.out.2.1
            rw [List.getD_eq_getElem?_getD, List.getElem?_eq_getElem (by rw [nsP_len]; exact HE.out.2.2.2.1)] at h3
            exact h3
          refine ⟨⟨pre', i + 1, ?_, by simp, a, ?_, HG.out.2.1, HG.out.2.2.1⟩, by simp [intOf]; omega⟩
          · rw [hb1, hg1, ← HE.out.2.2.2.2, HG.out.2.2.2]
          · rw [HG.out.1, dlt, HE.out.2.1, ← HE.out.2.2.2.2]
    · obtain rfl : i = np := by omega
      have HE := Lib.hid (And.intro hp (And.intro hJs hks))
      clear hp hJs hks
      gi_wp2
      go_end0
      exact ⟨⟨_, rfl⟩, .inl ⟨pre, by rw [HE.out.1, H.out.2.2.1], HE.out.2.1⟩⟩
theorem deal_stops (n : Nat) (hn : 1 ≤ n) (b s : Nat) (G : Nat → Prop) (v : Value) (ps : List Pg) (hl : ps.length ≤ 8) (hok : ∀ p ∈ ps, okT p) (w : World) (hb : w.cell? ⟨b, 0, none⟩ = some v) (hT : TabV (fun k => G k ∧ k < s) w v ps) :
    SeqStopsK Fence.wide n Try.prog 58 #[.pointer (some ⟨b, 0, none⟩)] (fun x : Dlt ps => encD x.1) (KS (fun k => (G k ∧ k < s) ∨ k = b))
      (fun ys => ys.map (·.1) = dlt (nsP ps) ps.length) (fun _ => True) (nsP ps).sum w := fun l J Jx W hW hJ _ hY h0 => by
  refine (deal1_in n hn l b (fun k => (G k ∧ k < s) ∨ k = b) (fun k => G k ∧ k < s) (.inr rfl) (fun k hk => .inl hk) v ps hl hok J Jx W hJ hY (cell_below hb hW) (hT.below hW) h0).mono ?_
  rintro e W' ⟨h1, h2 | h2⟩
  · exact ⟨h1, .inl h2⟩
  · obtain ⟨pre, h2⟩ := h2
    exact ⟨h1, .inr ⟨pre, trivial, h2⟩⟩
end Go.Proofs.Ytedhefidfepclaa
