/- A table of any number, and the law's look at both: the same frames, the same tables. No conditions. -/
import Derived.Test.YtedhefidfepclaaRqi
namespace Go.Proofs.Ytedhefidfepclaa
open Go.RowKit Go.Maps
set_option linter.unusedVariables false
set_option linter.unusedSimpArgs false

set_option maxHeartbeats 1000000 in
theorem sTabW_any (w : World) (s : SpAt) (B : Bts) (ns : List Nat) (ps : List Pg) (h : IsS w s B ns ps) (i : Nat) (hi : i < ns.length) :
    Calls Try.prog 21 #[.pointer (some ⟨s.p, 0, none⟩), .int .i64 (i : Int)] w (PgC w (tabP ns ps i)) := by
  have kh := shas_any w s B ns ps h (i : Int)
  rw [show decide (0 ≤ (i : Int) ∧ (i : Int) < (ns.length : Int)) = true by simp; omega] at kh
  have kt := stable_any w s B ns ps h i hi
  have he := h.each _ (List.getElem_mem hi)
  have hl := tabP_len h.sum i hi
  have KC : Hid (∀ W, Below w.heap.size w W → Calls Try.prog 45 #[.slice (some ⟨s.gp, bnd ns i * 2, none⟩) ns[i] ns[i]] W (PgC w (tabP ns ps i))) := Lib.hid fun W hW => by
    have k := pgclone_any _ W s.gp (bnd ns i * 2) ns[i] (tabP ns ps i) (by rw [hl]; exact (h.below hW).tab i hi) (by omega) (by omega)
    rw [hl] at k
    exact k.mono fun e w' ⟨g, c, h1, h2, h3, h4, h5⟩ => ⟨g, c, h1, h2, h3, Nat.le_trans hW.size h4, hW.trans (h5.mono hW.size)⟩
  have P : Hid (∀ e w', PgC w (tabP ns ps i) e w' → ∃ v, e = .returned v) := Lib.hid fun e w' ⟨g, c, e1, _⟩ => ⟨_, e1⟩
  generalize PgC w (tabP ns ps i) = R at *
  obtain ⟨m, hm⟩ : ∃ m, m = ns[i] := ⟨_, rfl⟩
  obtain ⟨x, hx⟩ : ∃ x, x = bnd ns i := ⟨_, rfl⟩
  rw [← hm] at kt KC
  rw [← hx] at kt KC
  clear h he hm hx hi hl
  go_enter Try.func21, Try.ntmps21
  go_wp2_with (first
    | (go_at_call 32; refine kh.mono ?_; rintro e _ ⟨rfl, rfl⟩)
    | (go_at_call 33; refine kt.mono ?_; rintro e w1 ⟨rfl, hb1⟩; have HB1 := Lib.hid hb1; clear hb1)
    | (go_at_call 45; refine (KC.out _ HB1.out).mono ?_; intro e w2 h2; obtain ⟨v, rfl⟩ := P.out _ _ h2; have H2 := Lib.hid h2; clear h2))
  exact H2.out
theorem sTab_no (w : World) (s : SpAt) (B : Bts) (ns : List Nat) (ps : List Pg) (h : IsS w s B ns ps) (k : Int) (hk : ¬ isP ns k) :
    Calls Try.prog 21 #[.pointer (some ⟨s.p, 0, none⟩), .int .i64 k] w fun e w' => e = .returned (.slice none 0 0) ∧ w = w' := by
  have kh := shas_any w s B ns ps h k
  unfold isP at hk
  rw [decide_eq_false hk] at kh
  clear h hk
  go_enter Try.func21, Try.ntmps21
  go_wp2_with (go_at_call 32; refine kh.mono ?_; rintro e _ ⟨rfl, rfl⟩)
  go_ret
  exact ⟨rfl, rfl⟩
/-- a table handed out: its row may be written into -/
def Scr (w W : World) (q : Option Addr) (n : Nat) : Prop := Below w.heap.size w W ∧ (n ≠ 0 → ∃ g, q = some ⟨g, 0, none⟩ ∧ w.heap.size ≤ g ∧ ∃ cur : Array Value, W.heap[g]? = some (.cells cur 56 (0, 0)) ∧ (∀ j, j < n * 2 → ∃ k x, cur[j]? = some (.int k x)))
theorem Scr.at {w W : World} {q : Option Addr} {n : Nat} (h : Scr w W q n) (i : Nat) (hi : i < n) : ∃ g, q = some ⟨g, 0, none⟩ ∧ (∃ k x, W.cell? ⟨g, i * 2, none⟩ = some (.int k x)) ∧ (∃ k x, W.cell? ⟨g, i * 2 + 1, none⟩ = some (.int k x)) ∧ W.frozen? ⟨g, i * 2, none⟩ = false ∧ W.frozen? ⟨g, i * 2 + 1, none⟩ = false ∧
    ∀ a b ka kb, Hid (Scr w ((W.setCell ⟨g, i * 2, none⟩ (.int ka a)).setCell ⟨g, i * 2 + 1, none⟩ (.int kb b)) q n) := by
  obtain ⟨hb, hc⟩ := h
  obtain ⟨g, rfl, hg, cur, h1, h2⟩ := hc (by omega)
  obtain ⟨k1, x1, e1⟩ := h2 (i * 2) (by omega)
  obtain ⟨k2, x2, e2⟩ := h2 (i * 2 + 1) (by omega)
  refine ⟨g, rfl, ⟨k1, x1, by rw [cell_of_row _ _ _ _ _ _ h1]; exact e1⟩, ⟨k2, x2, by rw [cell_of_row _ _ _ _ _ _ h1]; exact e2⟩, block_free h1, block_free h1, fun a b ka kb => Lib.hid ⟨(hb.setCell (p := ⟨g, i * 2, none⟩) hg _).setCell (p := ⟨g, i * 2 + 1, none⟩) hg _, fun _ => ⟨g, rfl, hg, _, block_setCell (block_setCell h1), fun j hj => ?_⟩⟩⟩
  have hs : j < cur.size := by obtain ⟨k, x, e⟩ := h2 j hj; exact (Array.getElem?_eq_some_iff.1 e).1
  rw [Array.getElem?_setIfInBounds, Array.getElem?_setIfInBounds]
  by_cases c1 : i * 2 + 1 = j
  · rw [if_pos c1, if_pos (by rw [Array.size_setIfInBounds]; omega)]; exact ⟨_, _, rfl⟩
  · rw [if_neg c1]
    by_cases c2 : i * 2 = j
    · rw [if_pos c2, if_pos (by omega)]; exact ⟨_, _, rfl⟩
    · rw [if_neg c2]; exact h2 j hj
theorem look_nest (w : World) (s : SpAt) (G : Nat → Prop) (q : QAt) (B : Bts) (ns : List Nat) (ps : List Pg) (h : IsS w s B ns ps) (hq : IsQ w G q B ns ps) (W : World) (hW : Below w.heap.size w W) (p : Int) :
    Calls Try.prog 21 #[.pointer (some ⟨s.p, 0, none⟩), .int .i64 p] W fun e w1 => ∃ a n c, e = .returned (.slice a n c) ∧ n ≤ 16 ∧
      Hid (Calls Try.prog 52 #[.pointer (some ⟨q.y, 0, none⟩), .int .i64 p] w1 fun e w2 => ∃ v, e = .returned v ∧
        Hid (Calls Try.prog 51 #[.slice a n c, v] w2 fun e w3 => e = .returned (.bool true) ∧ Hid (Scr w w3 a n))) := by
  by_cases hp : isP ns p
  · obtain ⟨i, rfl⟩ : ∃ i : Nat, p = (i : Int) := ⟨p.toNat, by unfold isP at hp; omega⟩
    have hi : i < ns.length := by unfold isP at hp; omega
    have hl := tabP_len h.sum i hi
    have he := h.each _ (List.getElem_mem hi)
    refine (sTabW_any W s B ns ps (h.below hW) i hi).mono fun e w1 ⟨g, c, e1, ⟨cur, r1, r2⟩, hc, hg, hb⟩ => ?_
    have hb1 : Below w.heap.size w w1 := hW.trans (hb.mono hW.size)
    refine ⟨some ⟨g, 0, none⟩, _, c, e1, by omega, Lib.hid ?_⟩
    refine (qtab_any w1 G q B ns ps (hq.below hb1) i hi).mono fun e w2 ⟨a, cap, e2, t2, ew⟩ => ?_
    subst ew
    refine ⟨_, e2, Lib.hid ?_⟩
    have t1 : TabV (fun k => k = g) w1 (.slice (some ⟨g, 0, none⟩) (tabP ns ps i).length c) (tabP ns ps i) := ⟨_, c, rfl, hc, fun _ => ⟨g, 0, rfl, rfl, block_lt r1, fun j hj => by
      rw [cell_of_row _ _ _ _ _ _ r1, cell_of_row _ _ _ _ _ _ r1, Nat.zero_add]; exact r2 j hj⟩⟩
    refine (tables_any w1 _ G _ _ _ t1 t2 (by omega)).mono fun e w3 ⟨e3, hb3⟩ => ⟨e3, Lib.hid ⟨hb1.trans (hb3.mono hb1.size), fun _ => ⟨g, rfl, Nat.le_trans hW.size hg, cur, (hb3.block _ (block_lt r1)).trans r1, fun j hj => ?_⟩⟩⟩
    obtain ⟨d0, d1⟩ := r2 (j / 2) (by omega)
    by_cases e : j % 2 = 0
    · rw [show j / 2 * 2 = j by omega] at d0; exact ⟨_, _, d0⟩
    · rw [show j / 2 * 2 + 1 = j by omega] at d1; exact ⟨_, _, d1⟩
  · refine (sTab_no W s B ns ps (h.below hW) p hp).mono fun e w1 ⟨e1, ew⟩ => ?_
    subst ew
    refine ⟨none, 0, 0, e1, by omega, Lib.hid ?_⟩
    refine (qtab_no W G q B ns ps (hq.below hW) p hp).mono fun e w2 ⟨e2, ew⟩ => ?_
    subst ew
    refine ⟨_, e2, Lib.hid ?_⟩
    exact (tables_nil W none none 0 0).mono fun e w3 ⟨e3, hb3⟩ => ⟨e3, Lib.hid ⟨hW.trans (hb3.mono hW.size), fun hn => absurd rfl hn⟩⟩
end Go.Proofs.Ytedhefidfepclaa
