/- A partition's table, cloned; the place of a number; the bytes of a partition's frames: what the calls return. Conditions: numbers that a machine holds. -/
import Derived.Test.YtedhefidfepclaaSpb
namespace Go.Proofs.Ytedhefidfepclaa
open Go.RowKit Go.Maps
set_option linter.unusedVariables false

def flatP (l : List Pg) : List Value := l.flatMap fun p => [.int .i64 p.1, .int .i64 p.2]
theorem flatP_len : ∀ l, (flatP l).length = l.length * 2
  | [] => rfl
  | p :: l => by
    have := flatP_len l
    unfold flatP at *
    rw [List.flatMap_cons, List.length_append, this, List.length_cons]
    simp; omega
theorem flatP_get : ∀ (l : List Pg) (i : Nat) (h : i < l.length), (flatP l)[i * 2]? = some (.int .i64 (l.getD i (0, 0)).1) ∧ (flatP l)[i * 2 + 1]? = some (.int .i64 (l.getD i (0, 0)).2)
  | [], i, h => absurd h (by simp)
  | p :: l, 0, h => ⟨rfl, rfl⟩
  | p :: l, i + 1, h => by
    have := flatP_get l i (by simpa using h)
    unfold flatP at *
    rw [List.flatMap_cons]
    refine ⟨?_, ?_⟩
    · rw [show (i + 1) * 2 = (i * 2) + 2 by omega]
      exact this.1
    · rw [show (i + 1) * 2 + 1 = (i * 2 + 1) + 2 by omega]
      exact this.2
theorem Try.info56 : (Try.prog.info? 56).map (fun i => (i.zero, i.size, i.bytes)) = some (some (.agg #[.int .i64 0, .int .i64 0]), 2, 16) := by kernel_rfl
theorem tab_cell {G : Nat → Prop} {w : World} {b o n cap : Nat} {ps : List Pg} (h : TabV G w (.slice (some ⟨b, o, none⟩) n cap) ps) : ps.length = n ∧ ∀ j, j < ps.length → w.cell? ⟨b, o + j * 2, none⟩ = some (.int .i64 (ps.getD j (0, 0)).1) ∧ w.cell? ⟨b, o + j * 2 + 1, none⟩ = some (.int .i64 (ps.getD j (0, 0)).2) := by
  obtain ⟨q, cap', e, _, hc⟩ := h
  injection e with e1 e2 e3
  refine ⟨e2.symm, fun j hj => ?_⟩
  obtain ⟨b', o', hq, _, _, hcell⟩ := hc (fun e => by subst e; simp at hj)
  rw [← e1] at hq
  injection hq with hq
  injection hq with h1 h2
  subst h1 h2
  exact hcell j hj
theorem tab_flat {G : Nat → Prop} {w : World} {b o n cap : Nat} {ps : List Pg} (h : TabV G w (.slice (some ⟨b, o, none⟩) n cap) ps) : ∀ j u, (flatP ps)[j]? = some u → w.cell? ((⟨b, o, none⟩ : Addr).add j) = some u := by
  obtain ⟨_, hc⟩ := tab_cell h
  intro j u hu
  have hj : j < ps.length * 2 := by
    rw [← flatP_len]; exact (List.getElem?_eq_some_iff.1 hu).1
  obtain ⟨c0, c1⟩ := hc (j / 2) (by omega)
  obtain ⟨f0, f1⟩ := flatP_get ps (j / 2) (by omega)
  rw [addr_at]
  by_cases e : j % 2 = 0
  · rw [show j / 2 * 2 = j by omega] at f0
    rw [show o + j / 2 * 2 = o + j by omega] at c0
    rw [f0] at hu
    rw [c0]; exact hu
  · rw [show j / 2 * 2 + 1 = j by omega] at f1
    rw [show o + j / 2 * 2 + 1 = o + j by omega] at c1
    rw [f1] at hu
    rw [c1]; exact hu
set_option maxRecDepth 20000 in
set_option maxHeartbeats 1000000 in
theorem pclone_any (G : Nat → Prop) (w : World) (b o n cap : Nat) (ps : List Pg) (h : TabV G w (.slice (some ⟨b, o, none⟩) n cap) ps) (h1 : 1 ≤ n) (h2 : n ≤ 16) :
    Calls Try.prog 45 #[.slice (some ⟨b, o, none⟩) n cap] w fun e w' => ∃ g' cap', e = .returned (.slice (some ⟨g', 0, none⟩) n cap') ∧ TabV (fun k => k = g') w' (.slice (some ⟨g', 0, none⟩) n cap') ps ∧ w.heap.size ≤ g' ∧ Below w.heap.size w w' := by
  obtain ⟨i0, hi, hz0, hz1, hz2⟩ := info_parts Try.info56
  have hnil := Lib.run_eql_slice_nil w 50 56 (some ⟨b, o, none⟩) n cap 0 0 Try.underlying50
  obtain ⟨w1, hw1⟩ : ∃ w1, w1 = w.alloc (.cells #[] 56) := ⟨_, rfl⟩
  have hb1 : Below w.heap.size w w1 := by subst hw1; exact (Below.refl _ w).alloc (Nat.le_refl _) _
  have ho : w1.ownsRow w.heap.size 56 2 (.slice (some ⟨w.heap.size, 0, none⟩) 0 0) 0 [] := by
    rw [hw1]
    exact ⟨by simp, .inr ⟨w.heap.size, 0, #[], rfl, Nat.le_refl _, block_new _ _, Nat.le_refl _, Nat.zero_le _, by simp, by simp⟩⟩
  have hl := (tab_cell h).1
  obtain ⟨v', w2, hrun, hown, hgr, hnn, hblk⟩ := run_append_own_at (P := Try.prog) (w := w1) w.heap.size 50 50 56 i0 (.agg #[.int .i64 0, .int .i64 0]) 2 16 Try.underlying50 hi hz0 hz1 hz2 rfl (by decide) _ 0 [] ho ⟨b, o, none⟩ n cap (flatP ps) (by rw [flatP_len, hl])
    (tab_flat (h.below hb1)) (by
      intro u hu
      unfold flatP at hu
      simp only [List.mem_flatMap, List.mem_cons, List.not_mem_nil, or_false] at hu
      obtain ⟨p, _, rfl | rfl⟩ := hu <;> rfl) (by unfold maxLen; omega) (by omega) hb1.size
  rw [Nat.zero_add, List.nil_append] at hown
  obtain ⟨g', cap', rfl, hTab, hbg⟩ : ∃ g' cap', v' = .slice (some ⟨g', 0, none⟩) n cap' ∧ TabV (fun k => k = g') w2 (.slice (some ⟨g', 0, none⟩) n cap') ps ∧ w.heap.size ≤ g' := by
    rcases hown.2 with ⟨e, e2⟩ | ⟨g', c', cur, e, hb, hg', hnc, _, hcs, htk⟩
    · rw [e] at hnn; simp at hnn
    · refine ⟨g', c', e, ⟨_, c', by rw [hl], by rw [hl]; exact hnc, fun hne => ⟨g', 0, rfl, rfl, block_lt hg', fun j hj => ?_⟩⟩, hb⟩
      obtain ⟨f0, f1⟩ := flatP_get ps j hj
      rw [← htk] at f0 f1
      rw [List.getElem?_take, if_pos (by omega), Array.getElem?_toList] at f0 f1
      rw [cell_of_row _ _ _ _ _ _ hg', cell_of_row _ _ _ _ _ _ hg', Nat.zero_add]
      exact ⟨f0, f1⟩
  have hb2 : Below w.heap.size w w2 := hb1.grown hgr hb1.size (fun j e => by
    have : w.heap.size = j := by simpa [Value.ownBlock] using e
    omega)
  have H := Lib.hid (And.intro hTab (And.intro hbg hb2))
  rw [hw1] at hrun
  clear hi hz0 hz1 hz2 ho hb1 hown hgr hnn hblk hTab hbg hb2 hw1 h hl
  go_enter Try.func45, Try.ntmps45
  go_wp2_with (at_builtin; refine wpList_append_run rfl (.tmp 5) (.tmp 6) 50 rfl _ _ _ _ rfl rfl hrun ?_)
  go_ret
  exact ⟨g', cap', rfl, H.out⟩
set_option maxHeartbeats 1000000 in
theorem sTable_any (w : World) (s : SpAt) (B : Bts) (ns : List Nat) (ps : List Pg) (h : IsS w s B ns ps) (i : Nat) (hi : i < ns.length) :
    Calls Try.prog 21 #[.pointer (some ⟨s.p, 0, none⟩), .int .i64 (i : Int)] w fun e w' => ∃ g' cap', e = .returned (.slice (some ⟨g', 0, none⟩) ns[i] cap') ∧ TabV (fun k => k = g') w' (.slice (some ⟨g', 0, none⟩) ns[i] cap') (tabP ns ps i) ∧ w.heap.size ≤ g' ∧ Below w.heap.size w w' := by
  have kh := shas_any w s B ns ps h (i : Int)
  rw [show decide (0 ≤ (i : Int) ∧ (i : Int) < (ns.length : Int)) = true by simp; omega] at kh
  have kt := stable_any w s B ns ps h i hi
  have he := h.each _ (List.getElem_mem hi)
  have KC : Hid (∀ W, Below w.heap.size w W → Calls Try.prog 45 #[.slice (some ⟨s.gp, bnd ns i * 2, none⟩) ns[i] ns[i]] W fun e w' => ∃ g' cap', e = .returned (.slice (some ⟨g', 0, none⟩) ns[i] cap') ∧ TabV (fun k => k = g') w' (.slice (some ⟨g', 0, none⟩) ns[i] cap') (tabP ns ps i) ∧ W.heap.size ≤ g' ∧ Below W.heap.size W w') := Lib.hid fun W hW =>
    pclone_any _ W _ _ _ _ _ ((h.below hW).tab i hi) he.1 he.2
  obtain ⟨m, hm⟩ : ∃ m, m = ns[i] := ⟨_, rfl⟩
  obtain ⟨x, hx⟩ : ∃ x, x = bnd ns i := ⟨_, rfl⟩
  rw [← hm] at kt KC ⊢
  rw [← hx] at kt KC
  clear h he hm hx hi
  go_enter Try.func21, Try.ntmps21
  go_wp2_with (first
    | (go_at_call 32; refine kh.mono ?_; rintro e _ ⟨rfl, rfl⟩)
    | (go_at_call 33; refine kt.mono ?_; rintro e w1 ⟨rfl, hb1⟩; have HB1 := Lib.hid hb1; clear hb1)
    | (go_at_call 45; refine (KC.out _ HB1.out).mono ?_; rintro e w2 ⟨g', c', rfl, h2⟩; have H2 := Lib.hid h2; clear h2))
  go_ret
  exact ⟨g', c', rfl, H2.out.1, Nat.le_trans HB1.out.size H2.out.2.1, HB1.out.trans (H2.out.2.2.mono HB1.out.size)⟩
/-- a number's remainder, 0 and above -/
def plc (n : Int) (m : Nat) : Nat := (if n.tmod (m : Int) < 0 then n.tmod (m : Int) + m else n.tmod (m : Int)).toNat
theorem plc_lt (n : Int) (m : Nat) (h0 : 0 < m) : plc n m < m := by
  have h1 : n.tmod (m : Int) < m := Int.tmod_lt_of_pos _ (by omega)
  unfold plc
  split <;> omega
set_option maxHeartbeats 1000000 in
theorem place_any (n : Int) (m : Nat) (hn : In64 n) (h0 : 0 < m) (hm : m < 9223372036854775808) (w : World) : Calls Try.prog 10 #[.int .i64 n, .int .i64 (m : Int)] w fun e w' => e = .returned (.int .i64 (plc n m : Nat)) ∧ w = w' := by
  obtain ⟨T, hT⟩ : ∃ T, T = n.tmod (m : Int) := ⟨_, rfl⟩
  have hT1 : T < m := by rw [hT]; exact Int.tmod_lt_of_pos _ (by omega)
  have hT2 : -(m : Int) < T := by rw [hT]; exact Int.lt_tmod_of_pos n (by omega)
  have hE : (plc n m : Int) = if T < 0 then T + m else T := by
    unfold plc
    rw [← hT]
    split <;> omega
  have hz0 : ¬ (m : Int) = 0 := by omega
  have hTs := hT.symm
  have hw : IntKind.i64.wrap T = T := wrap_in (by omega)
  obtain ⟨R, hR⟩ : ∃ R, R = plc n m := ⟨_, rfl⟩
  rw [← hR] at hE ⊢
  by_cases neg : T < 0
  · rw [if_pos neg] at hE
    have hw2 : IntKind.i64.wrap (T + (m : Int)) = (R : Int) := by rw [wrap_in (by omega)]; omega
    clear hT hE hR
    go_enter Try.func10, Try.ntmps10
    go_wp2
    go_ret
    exact ⟨rfl, rfl⟩
  · rw [if_neg neg] at hE
    subst hE
    clear hT hR
    go_enter Try.func10, Try.ntmps10
    go_wp2
    go_ret
    exact ⟨rfl, rfl⟩
end Go.Proofs.Ytedhefidfepclaa
