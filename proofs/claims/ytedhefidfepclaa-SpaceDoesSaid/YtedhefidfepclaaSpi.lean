/- A new space: what the call returns. Conditions: numbers that a machine holds. -/
import Derived.Test.YtedhefidfepclaaRdb
import Derived.Test.YtedhefidfepclaaSpg
namespace Go.Proofs.Ytedhefidfepclaa
open Go.RowKit Go.Maps Go.Shelf
set_option linter.unusedVariables false
attribute [local go_sem] Oper.semAt_some

theorem deal_any (w : World) (q : Option Addr) (n cap : Nat) : CallsIn Fence.wide 8 Try.prog 29 #[.slice q n cap] w fun e w' => e = .returned (.func (.func 58) #[] #[.pointer (some ⟨w.heap.size, 0, none⟩)]) ∧ w' = w.alloc (.cells #[.slice q n cap] 22) := by
  refine callsIn_of_wp Try.func29 rfl trivial ?_ rfl
  simp only [Try.ntmps29, List.size_toArray, List.length_cons, List.length_nil, Nat.reduceAdd, Nat.reduceSub, Array.replicate_succ, Array.replicate_zero, List.push_toArray, List.append_toArray, List.nil_append, List.cons_append]
  gi_wp2
  go_ret
  exact ⟨rfl, rfl⟩
/-- the slots of a round -/
def roundT (q : Option Addr) (n cap S4 S5 : Nat) (x : Nat × Nat) (Bx : Nat) : Array Value :=
  #[.slice q n cap, undef, .pointer none, .int .i64 0, .pointer (some ⟨S4, 0, none⟩), .pointer (some ⟨S5, 0, none⟩), .int .i64 (x.1 : Int), .pointer (some ⟨Bx, 0, none⟩), undef, undef, .slice q n cap, .bool true, .bool false, .slice q n cap, .int .i64 (n : Int), .int .i64 ((n : Int) + 1),
    .slice (some ⟨S4 + 1, 0, none⟩) (n + 1) (n + 1), .slice q n cap, .func (.func 58) #[] #[.pointer (some ⟨S5 + 1, 0, none⟩)], .int .i64 (x.1 : Int), .agg #[.int .i64 (x.2 : Int), .int .i64 3], undef, undef, undef, undef, undef, undef, undef, undef, undef, undef, undef, undef, undef, undef, undef, undef, undef, undef, undef, undef, undef]
theorem grown_setCell (W : World) (p o : Nat) (v : Value) : W.grownBy (W.setCell ⟨p, o, none⟩ v) (some p) :=
  ⟨rfl, rfl, rfl, by rw [setCell_size]; exact Nat.le_refl _, fun k hk hn => block_setCell_other (fun e => hn (by subst e; rfl))⟩
def pgCells (xs : List (Nat × Nat)) : List Value := xs.flatMap fun x => [.int .i64 (x.2 : Int), .int .i64 3]
/-- what stands behind the pages pre -/
def NI (w : World) (n n1 S4 B6 S5 : Nat) (pre : List (Nat × Nat)) (W : World) : Prop :=
  (∃ v, Boxed W S4 50 v ∧ W.ownsRow n1 56 2 v pre.length (pgCells pre)) ∧ Boxed W S5 66 (.slice (some ⟨B6, 0, none⟩) (n + 1) (n + 1)) ∧
    (∃ cs : Array Value, W.heap[B6]? = some (.cells cs 3 (0, 0)) ∧ cs.size = n + 1 ∧ ∀ k, k < n + 1 → cs[k]? = some (.int .i64 ((bdsD (n + 1) pre).getD k 0 : Nat))) ∧ n1 ≤ W.heap.size ∧ Below w.heap.size w W
theorem Try.info3 : (Try.prog.info? 3).map (fun i => (i.zero, i.size, i.bytes)) = some (some (.int .i64 0), 1, 8) := by kernel_rfl
theorem snew_no (w : World) (G : Nat → Prop) (v : Value) (ps : List Pg) (ht : TabV G w v ps) (hno : ¬ okL ps) :
    Calls Try.prog 7 #[v] w fun e w' => e = .returned (.tuple #[.pointer none, .int .i64 120]) ∧ Below w.heap.size w w' := by
  have k := mayBe_any w G v ps ht
  rw [decide_eq_false hno] at k
  obtain ⟨q, n, cap0, rfl⟩ : ∃ q n cap, v = .slice q n cap := by obtain ⟨q, cap, e, _⟩ := ht; exact ⟨_, _, _, e⟩
  clear ht hno
  go_enter Try.func7, Try.ntmps7
  go_wp2_with (go_at_call 28; refine k.mono ?_; rintro e w' ⟨rfl, hb⟩; have HB := Lib.hid hb; clear k)
  go_ret2
  exact ⟨rfl, HB.out⟩
theorem dlt_snd (ns : List Nat) : ∀ k, k ≤ ns.length → ∀ (j : Nat) (x : Nat × Nat), (dlt ns k)[j]? = some x → x.2 = j
  | 0, _, j, x, h => by simp [dlt] at h
  | k + 1, hk, j, x, h => by
    have hl := dlt_len ns k (by omega)
    rw [dlt] at h
    by_cases c : j < (dlt ns k).length
    · rw [List.getElem?_append_left c] at h
      exact dlt_snd ns k (by omega) j x h
    · rw [List.getElem?_append_right (by omega)] at h
      unfold rowD at h
      rw [List.getElem?_map] at h
      rcases hr : (List.range (ns.getD k 0))[j - (dlt ns k).length]? with _ | u
      · rw [hr] at h; cases h
      · rw [hr] at h
        injection h with h
        obtain ⟨h1, h2⟩ := List.getElem?_eq_some_iff.1 hr
        rw [List.getElem_range] at h2
        subst h
        show bnd ns k + u = j
        omega
theorem pgCells_get : ∀ (xs : List (Nat × Nat)) (j : Nat) (x : Nat × Nat), xs[j]? = some x → (pgCells xs)[j * 2]? = some (.int .i64 (x.2 : Int)) ∧ (pgCells xs)[j * 2 + 1]? = some (.int .i64 3)
  | [], j, x, h => by simp at h
  | y :: xs, 0, x, h => by
    simp at h; subst h
    exact ⟨rfl, rfl⟩
  | y :: xs, j + 1, x, h => by
    have ih := pgCells_get xs j x (by simpa using h)
    rw [show pgCells (y :: xs) = .int .i64 (y.2 : Int) :: .int .i64 3 :: pgCells xs from rfl, show (j + 1) * 2 = j * 2 + 1 + 1 by omega, show j * 2 + 1 + 1 + 1 = (j * 2 + 1) + 1 + 1 by omega]
    simpa using ih
def pg0 (F : Nat) : List Pg := (List.range F).map fun j : Nat => ((j : Int), (3 : Int))
theorem pg0_len (F : Nat) : (pg0 F).length = F := by simp [pg0]
theorem pg0_get (F j : Nat) (h : j < F) : (pg0 F).getD j (0, 0) = ((j : Int), (3 : Int)) := by
  unfold pg0
  rw [List.getD_eq_getElem?_getD, List.getElem?_map, List.getElem?_range h]; rfl
/-- the space that has been made -/
theorem made_IsS {w W w9 : World} {ps : List Pg} {n n1 S4 F D p9 g9 cap9 cp : Nat} {q2 : Option Addr} {xs : List (Nat × Nat)} (hok : okL ps) (hn : n = ps.length) (hF : F = (nsP ps).sum) (hxs : xs = dlt (nsP ps) ps.length) (hF1 : 1 ≤ F)
    (h2 : W.ownsRow n1 56 2 (.slice q2 F cp) F (pgCells xs)) (h4 : ∃ cs : Array Value, W.heap[S4]? = some (.cells cs 3 (0, 0)) ∧ cs.size = n + 1 ∧ ∀ k, k < n + 1 → cs[k]? = some (.int .i64 ((bdsD (n + 1) xs).getD k 0 : Nat)))
    (hm : IsM w9 p9 g9 cap9 F (nb (256 * F))) (hb : Below W.heap.size W w9) (hp9 : W.heap.size ≤ p9) (hg9 : W.heap.size ≤ g9) (hw : Below w.heap.size w W) (hDlo : w.heap.size ≤ D) (hD : W.heap[D]? = some (.deferred (some []))) :
    ∃ s : SpAt, s.p = w9.heap.size ∧ (w.heap.size ≤ s.g ∧ n1 ≤ s.gp) ∧ IsS ((w9.alloc (.cells #[.pointer (some ⟨p9, 0, none⟩), .slice q2 F cp, .slice (some ⟨S4, 0, none⟩) (n + 1) (n + 1)] 77)).putObj D (.deferred none)) s (nb (256 * F)) (nsP ps) (pg0 F) ∧ Below w.heap.size w ((w9.alloc (.cells #[.pointer (some ⟨p9, 0, none⟩), .slice q2 F cp, .slice (some ⟨S4, 0, none⟩) (n + 1) (n + 1)] 77)).putObj D (.deferred none)) := by
  obtain ⟨cs, h41, h42, h43⟩ := h4
  have hDl := block_lt hD
  have s9 := hb.size
  rcases h2.2 with ⟨_, e⟩ | ⟨gq, c', cur, e, hg1, hg2, hg3, _, hg5, hg6⟩
  · omega
  · injection e with e1 e2 e3
    subst e1 e3
    have hal : Below w9.heap.size w9 (w9.alloc (.cells #[.pointer (some ⟨p9, 0, none⟩), .slice (some ⟨gq, 0, none⟩) F cp, .slice (some ⟨S4, 0, none⟩) (n + 1) (n + 1)] 77)) := (Below.refl _ w9).alloc (Nat.le_refl _) _
    have hg := grownBy_putObj' (w9.alloc (.cells #[.pointer (some ⟨p9, 0, none⟩), .slice (some ⟨gq, 0, none⟩) F cp, .slice (some ⟨S4, 0, none⟩) (n + 1) (n + 1)] 77)) D (.deferred none)
    have kp : ∀ b, b < W.heap.size → b ≠ D → ((w9.alloc (.cells #[.pointer (some ⟨p9, 0, none⟩), .slice (some ⟨gq, 0, none⟩) F cp, .slice (some ⟨S4, 0, none⟩) (n + 1) (n + 1)] 77)).putObj D (.deferred none)).heap[b]? = W.heap[b]? := fun b h1 h2 =>
      ((hg.block b (by have := hal.size; omega) (fun e => h2 (by injection e))).trans (hal.block b (by omega))).trans (hb.block b h1)
    have kn : ∀ b, b < w9.heap.size → b ≠ D → ((w9.alloc (.cells #[.pointer (some ⟨p9, 0, none⟩), .slice (some ⟨gq, 0, none⟩) F cp, .slice (some ⟨S4, 0, none⟩) (n + 1) (n + 1)] 77)).putObj D (.deferred none)).heap[b]? = w9.heap[b]? := fun b h1 h2 =>
      (hg.block b (by have := hal.size; omega) (fun e => h2 (by injection e))).trans (hal.block b h1)
    have hns : ∀ n ∈ nsP ps, 1 ≤ n ∧ n ≤ 16 := fun n hn => by
      obtain ⟨p, hp, rfl⟩ := List.mem_map.1 hn
      have := hok.2.2 p hp
      unfold okT at this
      omega
    refine ⟨⟨w9.heap.size, p9, g9, cap9, gq, cp, S4, n + 1⟩, rfl, ⟨Nat.le_trans hw.size hg9, hg1⟩, ⟨?_, ?_, ⟨cur, ?_, fun j hj => ?_⟩, ⟨cs, ?_, fun k hk => ?_⟩, ?_, ?_, ?_, hns⟩, ?_⟩
    · rw [pg0_len, nsP_len, ← hn]
      exact (hg.block w9.heap.size (by simp) (fun e => by injection e with e; omega)).trans (block_new _ _)
    · rw [pg0_len]
      exact hm.of_heap (kn _ hm.lt.1 (by omega)) (kn _ hm.lt.2 (by omega))
    · exact (kp gq (block_lt hg2) (fun e => by subst e; rw [hg2] at hD; cases hD)).trans hg2
    · rw [pg0_len] at hj
      rw [pg0_get _ _ hj]
      have hlx : xs.length = F := by
        have := h2.1
        unfold pgCells at this
        rw [hxs, dlt_len _ _ (by rw [nsP_len]; exact Nat.le_refl _), hF]
        unfold bnd
        rw [List.take_of_length_le (by rw [nsP_len]; exact Nat.le_refl _)]
      have hx : xs[j]? = some (xs[j]'(by omega)) := List.getElem?_eq_getElem _
      have hx2 : (xs[j]'(by omega)).2 = j := dlt_snd (nsP ps) ps.length (by rw [nsP_len]; exact Nat.le_refl _) j _ (by rw [← hxs]; exact hx)
      obtain ⟨d0, d1⟩ := pgCells_get xs j _ hx
      rw [← hg6, List.getElem?_take, if_pos (by omega), Array.getElem?_toList] at d0 d1
      rw [hx2] at d0
      exact ⟨d0, d1⟩
    · exact (kp S4 (block_lt h41) (fun e => by subst e; rw [h41] at hD; cases hD)).trans h41
    · rw [nsP_len, ← hn] at hk
      rw [h43 k (by omega), hxs, bdsD_dlt (n + 1) (nsP ps) (by rw [nsP_len]; omega) (fun n hn => (hns n hn).1) ps.length (by rw [nsP_len]; exact Nat.le_refl _), if_pos (by omega)]
    · rw [pg0_len]; exact hF
    · rw [pg0_len]; exact hg3
    · rw [nsP_len]; exact hok.2.1
    · exact ((hw.trans (hb.mono hw.size)).trans (hal.mono (by have := hw.size; omega))).grown hg (by have := hw.size; have := hal.size; omega) (fun j e => by injection e; omega)
set_option maxRecDepth 100000 in
set_option maxHeartbeats 4000000 in
theorem snew_any (w : World) (G : Nat → Prop) (v : Value) (ps : List Pg) (ht : TabV G w v ps) (hok : okL ps) :
    Calls Try.prog 7 #[v] w fun e w' => ∃ s : SpAt, e = .returned (.tuple #[.pointer (some ⟨s.p, 0, none⟩), .int .i64 0]) ∧ IsS w' s (nb (256 * (nsP ps).sum)) (nsP ps) (pg0 (nsP ps).sum) ∧ Below w.heap.size w w' ∧ w.heap.size ≤ s.g ∧ w.heap.size ≤ s.gp := by
  have k := mayBe_any w G v ps ht
  rw [decide_eq_true hok] at k
  obtain ⟨q, n, cap0, rfl⟩ : ∃ q n cap, v = .slice q n cap := by obtain ⟨q, cap, e, _⟩ := ht; exact ⟨_, _, _, e⟩
  have hn : n = ps.length := by obtain ⟨q, cap, e, e2, _⟩ := ht; injection e with _ e3 e4
  have hn8 : n ≤ 8 := by rw [hn]; exact hok.2.1
  obtain ⟨i0, hi, hz0, hz1, hz2⟩ := info_parts Try.info3
  have hmk := fun (W : World) (hW : w.heap.size ≤ W.heap.size) => run_makeSlice_full (P := Try.prog) W w.heap.size 66 3 i0 (.int .i64 0) 1 Try.underlying66 hi hz0 hz1 .i64 .i64 (n + 1) (by omega) (by rw [hz2]; omega) (by unfold maxLen; omega) hW
  have HM := Lib.hid hmk
  have H := Lib.hid (And.intro ht (And.intro hok hn))
  clear ht hok hn hmk
  refine (callsIn_wide (n := 9)).1 ?_
  refine callsIn_of_wp_marks Try.func7 rfl trivial ?_ rfl
  simp only [Try.ntmps7, List.size_toArray, List.length_cons, List.length_nil, Nat.reduceAdd, Nat.reduceSub, Array.replicate_succ, Array.replicate_zero, List.push_toArray, List.append_toArray, List.nil_append, List.cons_append]
  gi_wp2_with (first
    | (refine ⟨trivial, ?_⟩; gi_at_call 28; refine (callsIn_wide.2 k).mono ?_; rintro e w' ⟨rfl, hb⟩; have HB := Lib.hid hb; clear k; obtain ⟨w3, hrun, hown, hgr⟩ := HM.out (w'.alloc (.cells #[.slice none 0 0] 50)) (by have := hb.size; simp; omega); rw [show ((n + 1 : Nat) : Int) = (n : Int) + 1 by omega] at hrun; have HO := Lib.hid (And.intro hown hgr); clear hown hgr)
    | (refine ⟨trivial, ?_⟩; gi_at_call 29; refine (deal_any _ _ _ _).mono ?_; rintro e w' ⟨rfl, rfl⟩))
  obtain ⟨ht, hok, hn⟩ := H.out
  have hbw : Below w.heap.size w w3 := (HB.out.alloc HB.out.size _).grown HO.out.2 (by have := HB.out.size; simp; omega) (fun k e => by cases e)
  obtain ⟨S4, hS4⟩ : ∃ S4, S4 = w'.heap.size := ⟨_, rfl⟩
  obtain ⟨S5, hs3⟩ : ∃ S5, S5 = w3.heap.size := ⟨_, rfl⟩
  obtain ⟨cs0, hc0, hc1, hc2⟩ : ∃ cs : Array Value, w3.heap[S4 + 1]? = some (.cells cs 3 (0, 0)) ∧ cs.size = n + 1 ∧ ∀ k, k < n + 1 → cs[k]? = some (.int .i64 0) := by
    rcases HO.out.1.2 with ⟨e, _⟩ | ⟨g', c', cur, e, _, h2, _, h4, h5, h6⟩
    · cases e
    · injection e with e e6 e7
      injection e with e
      injection e with e _
      have eg : g' = S4 + 1 := by rw [← e, hS4]; simp
      subst e7
      rw [eg] at h2
      have h5' : cur.size = n + 1 := by rw [h5, Nat.mul_one]
      refine ⟨cur, h2, h5', fun k hk => ?_⟩
      have h7 : (madeCells (Value.int IntKind.i64 0).cells ((n + 1) * 1)).toList[k]? = some (.int .i64 0) := by
        unfold madeCells
        rw [Array.getElem?_toList, Array.getElem?_map, Array.getElem?_range, if_pos (by omega)]
        have e9 : (Value.int IntKind.i64 0).cells = #[.int .i64 0] := rfl
        rw [e9]
        simp only [Option.map_some, List.size_toArray, List.length_cons, List.length_nil, Nat.zero_add, Nat.mod_one]
        rfl
      rw [← h6, List.getElem?_take, if_pos (by omega)] at h7
      rw [← Array.getElem?_toList]; exact h7
  have hlt5 : S4 + 1 < S5 := by rw [hs3]; exact block_lt hc0
  obtain ⟨W0, hW0⟩ : ∃ W0, W0 = (w3.alloc (.cells #[.slice (some ⟨w'.heap.size + 1, 0, none⟩) (n + 1) (n + 1)] 66)).alloc (.cells #[.slice q n cap0] 22) := ⟨_, rfl⟩
  rw [← hW0, ← hs3, ← hS4]
  rw [← hS4] at hW0
  have hsz : W0.heap.size = S5 + 2 := by rw [hW0]; simp [hs3]
  have hb0 : Below w.heap.size w W0 := by rw [hW0]; exact (hbw.alloc hbw.size _).alloc (by have := hbw.size; simp; omega) _
  have hi0 : NI w n (S5 + 2) S4 (S4 + 1) S5 [] W0 := by
    refine ⟨⟨.slice none 0 0, ?_, ⟨rfl, .inl ⟨rfl, rfl⟩⟩⟩, ?_, ⟨cs0, ?_, hc1, fun k hk => ?_⟩, by omega, hb0⟩
    · rw [hW0]
      refine Boxed.alloc (Boxed.alloc ?_ _) _
      have b := HO.out.2.block S4 (by rw [hS4]; simp) (fun e => by cases e)
      rw [hS4] at b ⊢
      exact b.trans (block_new _ _)
    · rw [hW0, hs3]; exact (Boxed.new _ _ _).alloc _
    · rw [hW0]; exact block_alloc (block_alloc hc0 _) _
    · rw [hc2 k hk]
      have e : (bdsD (n + 1) []).getD k 0 = 0 := by
        show (List.replicate (n + 1) 0).getD k 0 = 0
        rw [List.getD_eq_getElem?_getD, List.getElem?_replicate]; split <;> rfl
      rw [e]; rfl
  have hcb : W0.cell? ⟨S5 + 1, 0, none⟩ = some (.slice q n cap0) := by
    rw [hW0]
    have := Boxed.new (w3.alloc (.cells #[.slice (some ⟨S4 + 1, 0, none⟩) (n + 1) (n + 1)] 66)) 22 (.slice q n cap0)
    rw [World.size_alloc, ← hs3] at this
    exact this.cell
  have hlo : w.heap.size ≤ S4 := by rw [hS4]; exact HB.out.size
  have hT0 : TabV (fun k => G k ∧ k < w.heap.size) W0 (.slice q n cap0) ps := (ht.lt (Nat.le_refl _)).below hb0
  clear hW0
  refine wpIn_rangeFunc_ownH (F := Fence.wide) rfl (by omega) (gf := 58) (lb := #[.pointer (some ⟨S5 + 1, 0, none⟩)]) rfl trivial (enters_of Try.func58 (by kernel_rfl) rfl)
    (deal_stops 8 (by omega) (S5 + 1) w.heap.size G (.slice q n cap0) ps hok.2.1 hok.2.2 W0 hcb hT0)
    KS.trans ?hKS (Below.refl _ _) (fun _ => rfl)
    (fun pre W => NI w n (S5 + 2) S4 (S4 + 1) S5 (pre.map (·.1)) W) (fun c pre W => False) ?hI (fun c _ _ _ _ h _ _ => h) hi0
    (fun x a' W => ∃ Bx, S5 + 2 ≤ Bx ∧ W.heap[Bx]? = some (.cells #[.int .i64 (x.1.2 : Int), .int .i64 3] 56 (0, 0)) ∧ a' = { tmps := roundT q n cap0 S4 S5 x.1 Bx, defers := [] })
    ?hAx ?assign ?body ?done ?stop
  case hKS =>
    intro W l o o' hl h hc hw
    have hg := grownBy_putObj' W l o'
    refine ⟨hg.size, fun k hk hK => hg.block k hk (fun e => ?_)⟩
    cases e
    omega
  case hI =>
    intro pre W W' row h hg hr
    obtain ⟨⟨v, h1, h2⟩, h3, ⟨cs, h4, h5, h6⟩, h7, h8⟩ := h
    rw [hsz] at hr
    have hne : ∀ k, k < S5 + 2 → some k ≠ row := fun k hk e => by have := (hr _ e.symm).1; omega
    have h2' : W'.ownsRow (S5 + 2) 56 2 v (pre.map (·.1)).length (pgCells (pre.map (·.1))) := by
      rcases h2.2 with ⟨e2, e3⟩ | ⟨g', _, cur, e2, _, hgb, _⟩
      · exact ⟨h2.1, .inl ⟨e2, e3⟩⟩
      · refine h2.kept hg (.inr ?_)
        intro e
        subst e2
        obtain ⟨_, o, ho, hc⟩ := hr g' (by rw [← e]; rfl)
        rw [hgb] at ho; cases ho; cases hc
    exact ⟨⟨v, h1.kept hg (hne _ (by omega)), h2'⟩, h3.kept hg (hne _ (by omega)), ⟨cs, (hg.block _ (block_lt h4) (hne _ (by omega))).trans h4, h5, h6⟩, Nat.le_trans h7 hg.size, h8.grown hg h8.size (fun k e => by have := (hr k e).1; omega)⟩
  case hAx =>
    intro x a' _ W W' row h hg hr
    obtain ⟨Bx, h1, h2, h3⟩ := h
    refine ⟨Bx, h1, ?_, h3⟩
    rw [hg.block Bx (block_lt h2) (fun e => ?_)]; exact h2
    obtain ⟨_, o, ho, hc⟩ := hr _ e.symm
    rw [h2] at ho; cases ho; cases hc
  case assign =>
    rintro l pre x W K hi hK
    have HK := Lib.hid hK
    have HI := Lib.hid hi
    clear hK hi hrun ht hok hb0 hi0 hT0 hS4 hs3 hn hc0 hcb hsz
    dsimp only [encD]
    gi_wp2
    have hNI := HI.out
    obtain ⟨⟨v, h1, h2⟩, h3, ⟨cs, h4, h5, h6⟩, h7, h8⟩ := hNI
    refine HK.out _ _ ((KeepsOthers.alloc _ _).from _) ⟨(World.grownBy_alloc W _ none).size, fun k hk hKk => Below.heap_alloc _ _ _ hk⟩ ⟨⟨v, h1.alloc _, h2.alloc _⟩, h3.alloc _, ⟨cs, block_alloc h4 _, h5, h6⟩, by simp; omega, h8.alloc h8.size _⟩ ⟨W.heap.size, h7, block_new _ _, rfl⟩
  case body =>
    rintro l pre x a' W hl ⟨r, hr⟩ hi ⟨Bx, hBx, bX, rfl⟩ hlt
    obtain ⟨⟨v, h1, h2⟩, h3, ⟨cs, h4, h5, h6⟩, h7, h8⟩ := hi
    have hxm : x.1.1 < n := by have := (dlt_mem _ _ _ x.2).1; omega
    obtain ⟨pr, hpr⟩ : ∃ pr, pr = pre.map (·.1) := ⟨_, rfl⟩
    have hprl : pr.length < 128 := by
      have := bnd_le16 (nsP ps) (fun n hn => by
          obtain ⟨p, hp, rfl⟩ := List.mem_map.1 hn
          have := (hok.2.2 p hp).2.1
          omega) (nsP ps).length
      unfold bnd at this
      rw [List.take_length, nsP_len] at this
      have := hok.2.1
      rw [hpr, List.length_map]; omega
    rw [← hpr] at h2 h6
    obtain ⟨pi, hpi⟩ : ∃ pi, pi = x.1.1 := ⟨_, rfl⟩
    obtain ⟨pj, hpj⟩ : ∃ pj, pj = x.1.2 := ⟨_, rfl⟩
    rw [← hpj] at bX
    rw [← hpi] at hxm
    have x0 : W.cell? ⟨Bx, 0, none⟩ = some (.int .i64 (pj : Int)) := by rw [cell_of_row _ _ _ _ _ _ bX]; rfl
    have x1 : W.cell? ⟨Bx, 1, none⟩ = some (.int .i64 3) := by rw [cell_of_row _ _ _ _ _ _ bX]; rfl
    have c4 := h1.cell
    obtain ⟨i6, k1, k2, k3, k4⟩ := info_parts Try.info56
    obtain ⟨v', W1, hap, hown', hgr', hnn, hloc⟩ := run_append_own_at (P := Try.prog) (w := W.alloc (.cells #[.int .i64 (pj : Int), .int .i64 3] 56)) (S5 + 2) 50 50 56 i6 (.agg #[.int .i64 0, .int .i64 0]) 2 16 Try.underlying50 k1 k2 k3 k4 rfl (by decide) v pr.length (pgCells pr) (h2.alloc _) ⟨W.heap.size, 0, none⟩ 1 1 [.int .i64 (pj : Int), .int .i64 3] rfl
      (fun j u hu => by rw [show (⟨W.heap.size, 0, none⟩ : Addr).add j = ⟨W.heap.size, j, none⟩ by simp [Addr.add]; intro h; exact h.symm, cell_of_row _ _ _ _ _ _ (block_new W _)]; simpa using hu)
      (by intro u hu; simp at hu; rcases hu with rfl | rfl <;> rfl) (by unfold maxLen; omega) (by omega) (by simp; omega)
    obtain ⟨gb, cp, rfl⟩ : ∃ gb cp, v' = .slice (some ⟨gb, 0, none⟩) (pr.length + 1) cp := by
      rcases hown'.2 with ⟨e, _⟩ | ⟨g', c', _, e, _⟩
      · rw [e] at hnn; simp at hnn
      · exact ⟨_, _, e⟩
    have hvn : ∀ k, k < S5 + 2 → some k ≠ v.ownBlock := fun k hk e => by have := (h2.lt k e.symm).1; omega
    have b4 : Boxed W1 S4 50 v := (h1.alloc _).kept hgr' (hvn _ (by omega))
    have cb4 := b4.cell
    have fb4 := b4.frozen
    have b5 : Boxed W1 S5 66 _ := (h3.alloc _).kept hgr' (hvn _ (by omega))
    have hB6 : W1.heap[S4 + 1]? = some (.cells cs 3 (0, 0)) := (hgr'.block _ (block_lt (block_alloc h4 _)) (hvn _ (by omega))).trans (block_alloc h4 _)
    have hB7 := hB6
    have hW5 : (W1.setCell ⟨S4, 0, none⟩ (.slice (some ⟨gb, 0, none⟩) (pr.length + 1) cp)).cell? ⟨S5, 0, none⟩ = some (.slice (some ⟨S4 + 1, 0, none⟩) (n + 1) (n + 1)) := by
      simp only [World.cell?]; rw [block_setCell_other (show S5 ≠ S4 by omega)]; exact b5.cell
    have hW4 : (W1.setCell ⟨S4, 0, none⟩ (.slice (some ⟨gb, 0, none⟩) (pr.length + 1) cp)).cell? ⟨S4, 0, none⟩ = some (.slice (some ⟨gb, 0, none⟩) (pr.length + 1) cp) := (b4.set _).cell
    have hW6 : (W1.setCell ⟨S4, 0, none⟩ (.slice (some ⟨gb, 0, none⟩) (pr.length + 1) cp)).heap[S4 + 1]? = some (.cells cs 3 (0, 0)) := (block_setCell_other (show S4 + 1 ≠ S4 by omega)).trans hB6
    have hW7 : (W1.setCell ⟨S4, 0, none⟩ (.slice (some ⟨gb, 0, none⟩) (pr.length + 1) cp)).cell? ⟨S4 + 1, pi + 1, none⟩ = some (.int .i64 ((bdsD (n + 1) pr).getD (pi + 1) 0 : Nat)) := by
      rw [cell_of_row _ _ _ _ _ _ hW6]; exact h6 _ (by omega)
    have hW8 := block_free (o := pi + 1) hW6
    have q1 : IntKind.i64.wrap ((pi : Int) + 1) = (pi : Int) + 1 := IntWalk.i64_in _ (by omega)
    have piI : (pi : Int) + 1 < (n : Int) + 1 := by omega
    have HF := Lib.hid (And.intro h1 (And.intro h2 (And.intro h3 (And.intro h4 (And.intro h5 (And.intro h6 (And.intro h7 (And.intro h8 (And.intro hown' (And.intro hgr' (And.intro hloc (And.intro hpr (And.intro hpi hpj)))))))))))))
    have HY := Lib.hid (And.intro hn (And.intro hS4 (And.intro hs3 (And.intro hsz hok))))
    simp only [roundT]
    rw [← hpi, ← hpj]
    clear h1 h2 h3 h4 h5 h6 h7 h8 hown' hgr' hloc hpr hpi hpj hnn hvn b4 b5 hB6 hB7 hW6 hok hn hS4 hs3 hsz hrun ht hb0 hi0 hT0 hc0 hcb hl hr bX k1 k2 k3 k4
    gi_wp2_with (gi_at_builtin; refine wpListIn_append_run rfl (.tmp 21) (.tmp 23) 50 rfl _ _ _ _ rfl rfl hap ?_)
    obtain ⟨h1, h2, h3, h4, h5, h6, h7, h8, hown', hgr', hloc, hpr, hpi, hpj⟩ := HF.out
    obtain ⟨hn, hS4, hs3, hsz, hok⟩ := HY.out
    have hvn : ∀ k, k < S5 + 2 → some k ≠ v.ownBlock := fun k hk e => by have := (h2.lt k e.symm).1; omega
    have hszW : W.heap.size ≤ W1.heap.size := Nat.le_trans (World.grownBy_alloc W _ none).size hgr'.size
    have hgk : ∀ k, k < S5 + 2 → W1.heap[k]? = W.heap[k]? := fun k hk => (hgr'.block k (by simp; omega) (hvn k hk)).trans (Below.heap_alloc _ _ _ (by omega))
    have b4 : Boxed W1 S4 50 v := (hgk _ (by omega)).trans h1
    have hgb : S5 + 2 ≤ gb := (hown'.lt gb rfl).1
    have hmap : (pre ++ [x]).map (·.1) = pr ++ [x.1] := by rw [List.map_append, hpr]; rfl
    refine ⟨((((KeepsOthers.alloc W _).trans (KeepsOthers.of_grownBy hgr' (fun j o' ej hj => ?_))).trans (KeepsOthers.setCell _ _ _)).trans (KeepsOthers.setCell _ _ _)).from _, ⟨by rw [setCell_size, setCell_size]; exact hszW, fun k hk hK => ?_⟩, ?_⟩
    · rcases h2.2 with ⟨e, _⟩ | ⟨g', _, cur, e, _, hg1, _⟩
      · subst e; cases ej
      · subst e
        have e2 : g' = j := by injection ej
        subst e2
        rw [block_alloc hg1 _] at hj
        cases hj; rfl
    · rw [block_setCell_other (show k ≠ S4 + 1 by omega), block_setCell_other (show k ≠ S4 by omega)]
      exact hgk k (by omega)
    · show NI w n (S5 + 2) S4 (S4 + 1) S5 ((pre ++ [x]).map (·.1)) _
      rw [hmap]
      refine ⟨⟨.slice (some ⟨gb, 0, none⟩) (pr.length + 1) cp, (block_setCell_other (show S4 ≠ S4 + 1 by omega)).trans (b4.set _), ?_⟩, (block_setCell_other (show S5 ≠ S4 + 1 by omega)).trans ((block_setCell_other (show S5 ≠ S4 by omega)).trans ((hgk _ (by omega)).trans h3)), ⟨_, block_setCell ((block_setCell_other (show S4 + 1 ≠ S4 by omega)).trans ((hgk _ (by omega)).trans h4)), by simpa using h5, fun k hk => ?_⟩, by rw [setCell_size, setCell_size]; omega, ?_⟩
      · rw [List.length_append, List.length_singleton, show pgCells (pr ++ [x.1]) = pgCells pr ++ [.int .i64 (pj : Int), .int .i64 3] by rw [hpj]; simp [pgCells]]
        refine (hown'.kept (grownBy_setCell' W1 S4 _) (.inr ?_)).kept (grown_setCell _ (S4 + 1) (pi + 1) _) (.inr ?_)
        · intro e
          have : S4 = gb := by simpa [Value.ownBlock] using e.symm
          omega
        · intro e
          have : S4 + 1 = gb := by simpa [Value.ownBlock] using e.symm
          omega
      · rw [bdsD_snoc, ← hpi, Array.getElem?_setIfInBounds, List.getD_eq_getElem?_getD, List.getElem?_set, bdsD_len]
        by_cases e : pi + 1 = k
        · subst e
          rw [if_pos rfl, if_pos rfl, if_pos (by omega), if_pos (by omega)]
          rfl
        · rw [if_neg e, if_neg e, ← List.getD_eq_getElem?_getD]
          exact h6 k hk
      · refine Below.setCell (p := ⟨S4 + 1, pi + 1, none⟩) (Below.setCell (p := ⟨S4, 0, none⟩) ((h8.alloc h8.size _).grown hgr' (by have := h8.size; simp; omega) (fun k e => ?_)) (by show w.heap.size ≤ S4; omega) _) (by show w.heap.size ≤ S4 + 1; omega) _
        have := (h2.lt k e).1
        omega
  case done =>
    rintro D ys W hD hall hi hK
    obtain ⟨⟨v, h1, h2⟩, h3, ⟨cs, h4, h5, h6⟩, h7, h8⟩ := hi
    have hT : (ys.map (·.1)).length = (nsP ps).sum := by
      rw [hall, dlt_len _ _ (by rw [nsP_len]; exact Nat.le_refl _)]
      unfold bnd
      rw [List.take_of_length_le (by rw [nsP_len]; exact Nat.le_refl _)]
    rw [hT] at h2
    have c4 := h1.cell
    have c5 := h3.cell
    obtain ⟨F, hF⟩ : ∃ F, F = (nsP ps).sum := ⟨_, rfl⟩
    have hFr : 1 ≤ F ∧ F ≤ 160 := by
      have hns : ∀ n ∈ nsP ps, 1 ≤ n ∧ n ≤ 16 := fun n hn => by
        obtain ⟨p, hp, rfl⟩ := List.mem_map.1 hn
        have := hok.2.2 p hp
        unfold okT at this
        omega
      have h16 := bnd_le16 (nsP ps) (fun n hn => (hns n hn).2) (nsP ps).length
      unfold bnd at h16
      rw [List.take_length, nsP_len] at h16
      have h8 := hok.2.1
      have h1p : 1 ≤ (nsP ps).sum := by
        have hl := hok.1
        have hbs : bnd (nsP ps) 1 = bnd (nsP ps) 0 + (nsP ps)[0]'(by rw [nsP_len]; omega) := bnd_succ (nsP ps) 0 (by rw [nsP_len]; omega)
        have h0 := hns _ (List.getElem_mem (l := nsP ps) (n := 0) (by rw [nsP_len]; omega))
        have := bnd_le (nsP ps) 1
        rw [bnd_zero] at hbs
        omega
      omega
    have kn := new_any F W hFr
    obtain ⟨q2, cp, rfl⟩ : ∃ q2 cp, v = .slice q2 F cp := by
      rcases h2.2 with ⟨e, e2⟩ | ⟨g', c', _, e, _⟩
      · omega
      · exact ⟨_, _, by rw [hF]; exact e⟩
    have HD := Lib.hid (And.intro h1 (And.intro h2 (And.intro h3 (And.intro h4 (And.intro h5 (And.intro h6 (And.intro h7 (And.intro h8 (And.intro hD (And.intro hall hK))))))))))
    have HY := Lib.hid (And.intro hn (And.intro hS4 (And.intro hs3 (And.intro hsz (And.intro hok hF)))))
    clear h1 h2 h3 h4 h5 h6 h7 h8 hD hall hi0 ht hok hb0 hT0 hn hS4 hs3 hsz hF hrun hc0 hcb hT
    gi_wp2_with (refine ⟨trivial, ?_⟩; gi_at_call 30; refine (callsIn_wide.2 kn).mono ?_; rintro e w9 ⟨p9, rfl, g9, cap9, hm9, hb9, hp9, hg9⟩; have d4 := cell_below c4 hb9; have d5 := cell_below c5 hb9; have HN := Lib.hid (And.intro hm9 (And.intro hb9 (And.intro hp9 hg9))); clear hm9 hb9 hp9 hg9 kn)
    have hKF : (w9.alloc (.cells #[.pointer (some ⟨p9, 0, none⟩), .slice q2 F cp, .slice (some ⟨S4 + 1, 0, none⟩) (n + 1) (n + 1)] 77)).heap[D]? = some (.deferred (some [])) := block_alloc ((HN.out.2.1.block D (block_lt hK)).trans hK) _
    refine ⟨by simp, .inl ⟨_, _, rfl, run_takeDeferred hKF, ?_⟩⟩
    refine ⟨_, results_tmp2 rfl _ _ _, ?_⟩
    obtain ⟨h1, h2, h3, h4, h5, h6, h7, h8, hD, hall, _⟩ := HD.out
    obtain ⟨hn, hS4, hs3, hsz, hok, hF⟩ := HY.out
    obtain ⟨hm9, hb9, hp9, hg9⟩ := HN.out
    rw [← hF] at h2
    obtain ⟨s, e1, e4, e2, e3⟩ := made_IsS hok hn hF hall hFr.1 h2 ⟨cs, h4, h5, h6⟩ hm9 hb9 hp9 hg9 h8 (by omega) hK
    refine ⟨s, ?_, ?_, e3, e4.1, by have := e4.2; omega⟩
    · rw [e1]; rfl
    · rw [← hF]; exact e2
  case stop =>
    rintro D c pre W hD _ h _
    exact h.elim
end Go.Proofs.Ytedhefidfepclaa
