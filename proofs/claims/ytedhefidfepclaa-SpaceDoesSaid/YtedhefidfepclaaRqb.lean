/- The document's space: a program laid into a partition's memory. Conditions: numbers that a machine holds. -/
import Derived.Test.YtedhefidfepclaaRqa
namespace Go.Proofs.Ytedhefidfepclaa
open Go.RowKit Go.Maps
set_option linter.unusedVariables false
set_option linter.unusedSimpArgs false

/-- a partition's pages behind k of them, as a program lays them -/
def tpL (tp : List Pg) (t : Bts) (k : Nat) : List Pg := (List.range k).map fun j => ((tp.getD j (0, 0)).1, if (pcP t j).length = 0 then 3 else 5)
theorem tpL_len (tp : List Pg) (t : Bts) (k : Nat) : (tpL tp t k).length = k := by simp [tpL]
theorem tpL_succ (tp : List Pg) (t : Bts) (k : Nat) : tpL tp t (k + 1) = tpL tp t k ++ [((tp.getD k (0, 0)).1, if (pcP t k).length = 0 then 3 else 5)] := by simp [tpL, List.range_succ]
theorem tpL_get (tp : List Pg) (t : Bts) (n j : Nat) (h : j < n) : (tpL tp t n).getD j (0, 0) = ((tp.getD j (0, 0)).1, if (pcP t j).length = 0 then 3 else 5) := by
  unfold tpL
  rw [List.getD_eq_getElem?_getD, List.getElem?_map, List.getElem?_range h]; rfl
theorem ldP_get (ps : List Pg) (x : Nat) (t : Bts) : ∀ k j, x + k ≤ ps.length → (ldP ps x t k).getD j (0, 0) = if x ≤ j ∧ j < x + k then ((ps.getD j (0, 0)).1, if (pcP t (j - x)).length = 0 then 3 else 5) else ps.getD j (0, 0)
  | 0, j, _ => by rw [if_neg (by omega)]; rfl
  | k + 1, j, h => by
    have ih := ldP_get ps x t k j (by omega)
    rw [ldP, List.getD_eq_getElem?_getD, List.getElem?_set]
    by_cases e : x + k = j
    · subst e
      have c1 : x + k < (ldP ps x t k).length := by rw [ldP_len]; omega
      have c2 : x ≤ x + k ∧ x + k < x + (k + 1) := by omega
      rw [if_pos rfl, if_pos c1, if_pos c2, show x + k - x = k by omega]; rfl
    · rw [if_neg e, ← List.getD_eq_getElem?_getD, ih]
      by_cases e2 : x ≤ j ∧ j < x + k
      · have c2 : x ≤ j ∧ j < x + (k + 1) := by omega
        rw [if_pos e2, if_pos c2]
      · have c2 : ¬ (x ≤ j ∧ j < x + (k + 1)) := by omega
        rw [if_neg e2, if_neg c2]
theorem list_ext0 {l m : List Pg} (h : l.length = m.length) (e : ∀ j, j < l.length → l.getD j (0, 0) = m.getD j (0, 0)) : l = m := by
  apply List.ext_getElem h
  intro j h1 h2
  have := e j h1
  rw [List.getD_eq_getElem?_getD, List.getD_eq_getElem?_getD, List.getElem?_eq_getElem h1, List.getElem?_eq_getElem h2] at this
  exact this
theorem bnd_le2 (ns : List Nat) (a b : Nat) (h : a ≤ b) : bnd ns a ≤ bnd ns b := by
  obtain ⟨d, rfl⟩ : ∃ d, b = a + d := ⟨b - a, by omega⟩
  clear h
  induction d with
  | zero => exact Nat.le_refl _
  | succ d ih => exact Nat.le_trans ih (bnd_mono ns (a + d))
theorem tab_ld {ns : List Nat} {ps : List Pg} (h : ps.length = ns.sum) (i : Nat) (hi : i < ns.length) (t : Bts) : tabP ns (ldP ps (bnd ns i) t ns[i]) i = tpL (tabP ns ps i) t ns[i] := by
  have h1 := bnd_succ ns i hi
  have h2 := bnd_le ns (i + 1)
  have hl : (ldP ps (bnd ns i) t ns[i]).length = ns.sum := by rw [ldP_len]; exact h
  refine list_ext0 (by rw [tabP_len hl i hi, tpL_len]) fun j hj => ?_
  rw [tabP_len hl i hi] at hj
  rw [tabP_get hl i hi j hj, tpL_get _ _ _ _ hj, ldP_get ps (bnd ns i) t ns[i] _ (by omega), if_pos (show bnd ns i ≤ bnd ns i + j ∧ bnd ns i + j < bnd ns i + ns[i] by omega), tabP_get h i hi j hj, show bnd ns i + j - bnd ns i = j by omega]
theorem tab_ld_other {ns : List Nat} {ps : List Pg} (h : ps.length = ns.sum) (i m : Nat) (hi : i < ns.length) (hm : m < ns.length) (hne : i ≠ m) (t : Bts) : tabP ns (ldP ps (bnd ns i) t ns[i]) m = tabP ns ps m := by
  have h1 := bnd_succ ns i hi
  have h2 := bnd_le ns (i + 1)
  have h3 := bnd_succ ns m hm
  have hl : (ldP ps (bnd ns i) t ns[i]).length = ns.sum := by rw [ldP_len]; exact h
  refine list_ext0 (by rw [tabP_len hl m hm, tabP_len h m hm]) fun j hj => ?_
  rw [tabP_len hl m hm] at hj
  rw [tabP_get hl m hm j hj, tabP_get h m hm j hj, ldP_get ps (bnd ns i) t ns[i] _ (by omega)]
  refine if_neg (fun q : bnd ns i ≤ bnd ns m + j ∧ bnd ns m + j < bnd ns i + ns[i] => ?_)
  rcases Nat.lt_or_ge i m with e | e
  · have := bnd_le2 ns (i + 1) m e; omega
  · have := bnd_le2 ns (m + 1) i (by omega); omega
/-- what a round of the document's Load leaves -/
structure LdI (w W : World) (q : QAt) (F : Nat) (ps : List Pg) (x : Nat) (t B : Bts) (tp : List Pg) (k : Nat) (tv : Value) : Prop where
  mem : IsR W q.m q.g q.cap F (ldB F ps x t B k)
  row : W.ownsRow w.heap.size 56 2 tv k (flatP (tpL tp t k))
  ch : Ch (onB q.g) w W
theorem own2_below {w W : World} {b e n : Nat} {v : Value} {xs : List Value} (h : w.ownsRow b e 2 v n xs) (hb : ∀ j, v.ownBlock = some j → W.heap[j]? = w.heap[j]?) : W.ownsRow b e 2 v n xs := by
  refine ⟨h.1, ?_⟩
  rcases h.2 with e1 | ⟨g, c, cur, e1, h1, hg, h2⟩
  · exact .inl e1
  · exact .inr ⟨g, c, cur, e1, h1, (hb g (by rw [e1]; rfl)).trans hg, h2⟩
theorem own2_lt {w : World} {b e n : Nat} {v : Value} {xs : List Value} (h : w.ownsRow b e 2 v n xs) : ∀ j, v.ownBlock = some j → b ≤ j ∧ ∃ cur, w.heap[j]? = some (.cells cur e (0, 0)) := by
  rcases h.2 with ⟨e1, _⟩ | ⟨g, c, cur, e1, h1, hg, _⟩
  · rw [e1]; intro j hj; cases hj
  · rw [e1]; intro j hj; injection hj with hj; subst hj; exact ⟨h1, cur, hg⟩
/-- t = append(t, x) -/
theorem LdI.app {w W : World} {q : QAt} {F : Nat} {ps : List Pg} {x : Nat} {t B : Bts} {tp : List Pg} {k : Nat} {tv : Value} {f r : Int} (hm : IsR W q.m q.g q.cap F (ldB F ps x t B (k + 1))) (hrow : W.ownsRow w.heap.size 56 2 tv k (flatP (tpL tp t k))) (hc : Ch (onB q.g) w W) (hk : k ≤ 16) (hf : f = (tp.getD k (0, 0)).1) (hr : r = if (pcP t k).length = 0 then 3 else 5) :
    ∃ q' c' W', (Builtin.append_ #[50, 50] 50 #[tv, .slice (some ⟨W.heap.size, 0, none⟩) 1 1]).run Try.prog (W.alloc (.cells #[.int .i64 f, .int .i64 r] 56)) = .ok (.slice q' (k + 1) c') W' ∧ LdI w W' q F ps x t B tp (k + 1) (.slice q' (k + 1) c') := by
  obtain ⟨i0, hi, hz0, hz1, hz2⟩ := info_parts Try.info56
  have hb : Below W.heap.size W (W.alloc (.cells #[.int .i64 f, .int .i64 r] 56)) := (Below.refl _ W).alloc (Nat.le_refl _) _
  have hn := block_new W (.cells #[.int .i64 f, .int .i64 r] 56)
  have lo := own2_lt hrow
  have ho : (W.alloc (.cells #[.int .i64 f, .int .i64 r] 56)).ownsRow w.heap.size 56 2 tv k (flatP (tpL tp t k)) := own2_below hrow fun j hj => by
    obtain ⟨_, cur, h⟩ := lo j hj
    exact hb.block j (block_lt h)
  obtain ⟨v', W', hrun, hown, hgr, _, hob⟩ := run_append_own_at (P := Try.prog) (w := W.alloc (.cells #[.int .i64 f, .int .i64 r] 56)) w.heap.size 50 50 56 i0 (.agg #[.int .i64 0, .int .i64 0]) 2 16 Try.underlying50 hi hz0 hz1 hz2 rfl (by decide) tv k _ ho ⟨W.heap.size, 0, none⟩ 1 1 [.int .i64 f, .int .i64 r] rfl (by
    intro j u hu
    rw [addr_at, Nat.zero_add, cell_of_row _ _ _ _ _ _ hn, ← hu]; exact (List.getElem?_toArray ..)) (by intro u hu; simp at hu; rcases hu with rfl | rfl <;> rfl) (by unfold maxLen; omega) (by omega) (Nat.le_trans hc.size hb.size)
  have hv : ∃ q' c', v' = .slice q' (k + 1) c' := by
    rcases hown.2 with ⟨e1, e2⟩ | ⟨g, c, cur, e1, _⟩
    · omega
    · exact ⟨_, _, e1⟩
  obtain ⟨q', c', rfl⟩ := hv
  obtain ⟨l1, l2⟩ := hm.lt
  obtain ⟨_, hmr, _⟩ := hm.row
  have ne9 : ∀ j, tv.ownBlock = some j → ∀ a cur ty, W.heap[a]? = some (.cells cur ty (0, 0)) → ty ≠ 56 → a ≠ j := fun j hj a cur ty ha hty e => by
    obtain ⟨_, cur2, h2⟩ := lo j hj
    subst e; rw [ha] at h2; injection h2 with h2; injection h2 with _ h3 _; exact hty h3
  have hkeep : ∀ a, a < W.heap.size → (∀ j, tv.ownBlock = some j → a ≠ j) → W'.heap[a]? = W.heap[a]? := fun a ha hne => (hgr.block a (Nat.lt_of_lt_of_le ha hb.size) (fun e => hne a e.symm rfl)).trans (hb.block a ha)
  refine ⟨q', c', W', hrun, hm.of_heap (hkeep _ l1 fun j hj => ne9 j hj _ _ _ hm.blk (by decide)) (hkeep _ l2 fun j hj => ne9 j hj _ _ _ hmr (by decide)), ?_, ?_⟩
  · rw [tpL_succ, show flatP (tpL tp t k ++ [((tp.getD k (0, 0)).1, if (pcP t k).length = 0 then 3 else 5)]) = flatP (tpL tp t k) ++ [.int .i64 f, .int .i64 r] by rw [hf, hr]; simp [flatP]]
    exact hown
  · exact (hc.then_below hb).grown hgr fun j hj => .inr (lo j hj).1
def onQ (q : QAt) : Nat → Prop := fun k => k = q.g ∨ k = q.gt
def nwG (G : Nat → Prop) (w w' : World) : Nat → Prop := fun k => G k ∨ (w.heap.size ≤ k ∧ k < w'.heap.size)
theorem tabV_mono {G H : Nat → Prop} {w : World} {v : Value} {tp : List Pg} (h : TabV G w v tp) (e : ∀ k, k < w.heap.size → G k → H k) : TabV H w v tp := by
  obtain ⟨q, cap, h1, h2, h3⟩ := h
  refine ⟨q, cap, h1, h2, fun hne => ?_⟩
  obtain ⟨b, o, hq, hG, hlt, hc⟩ := h3 hne
  exact ⟨b, o, hq, e b hlt hG, hlt, hc⟩
theorem tabV_own {w : World} {base n : Nat} {v : Value} {tp : List Pg} {G : Nat → Prop} (h : w.ownsRow base 56 2 v n (flatP tp)) (hG : ∀ j, v.ownBlock = some j → G j) : TabV G w v tp := by
  have hl : tp.length = n := by
    have := h.1
    rw [flatP_len] at this; omega
  rcases h.2 with ⟨e1, e2⟩ | ⟨g, c, cur, e1, h1, hg, hn, _, _, htk⟩
  · have : tp = [] := List.eq_nil_of_length_eq_zero (by omega)
    subst this
    exact ⟨none, 0, e1, Nat.le_refl _, fun x => absurd rfl x⟩
  · refine ⟨some ⟨g, 0, none⟩, c, by rw [e1, hl], by omega, fun _ => ⟨g, 0, rfl, hG g (by rw [e1]; rfl), block_lt hg, fun j hj => ?_⟩⟩
    have hget : ∀ (a : Nat) (u : Value), (flatP tp)[a]? = some u → w.cell? ⟨g, a, none⟩ = some u := fun a u hu => by
      have ha : a < n * 2 := by
        have := (List.getElem?_eq_some_iff.1 hu).1
        rw [flatP_len] at this; omega
      rw [← htk, List.getElem?_take, if_pos ha, Array.getElem?_toList] at hu
      rw [cell_of_row _ _ _ _ _ _ hg]; exact hu
    obtain ⟨f1, f2⟩ := flatP_get tp j hj
    rw [Nat.zero_add]
    exact ⟨hget _ _ f1, hget _ _ f2⟩
/-- the memory's bytes have become others -/
theorem IsQ.setMem {w w1 : World} {G : Nat → Prop} {q : QAt} {B B' : Bts} {ns : List Nat} {ps : List Pg} (h : IsQ w G q B ns ps) (hG : ¬ G q.g) (m1 : IsR w1 q.m q.g q.cap ps.length B') (c1 : Ch (onB q.g) w w1) : IsQ w1 G q B' ns ps := by
  obtain ⟨_, hmr, _⟩ := h.mem.row
  obtain ⟨cur, ht, hc⟩ := h.tab
  have hne : ∀ a ca ta, w.heap[a]? = some (.cells ca ta (0, 0)) → ta ≠ 9 → a ≠ q.g := fun a ca ta ha hta e => by
    subst e; rw [hmr] at ha; injection ha with ha; injection ha with _ h3 _; exact hta h3.symm
  refine ⟨(c1.block _ h.lt.1 (hne _ _ _ h.blk (by decide))).trans h.blk, m1, ⟨cur, (c1.block _ h.lt.2.2.2 (hne _ _ _ ht (by decide))).trans ht, fun k hk => ?_⟩, h.sum, h.few, h.each⟩
  obtain ⟨v, h1, h2⟩ := hc k hk
  exact ⟨v, h1, h2.of_heap c1.size fun j hj hg => c1.block j hj (fun e => hG (by have e : j = q.g := e; rw [← e]; exact hg))⟩
set_option maxRecDepth 20000 in
set_option maxHeartbeats 4000000 in
theorem qout_any (w : World) (G : Nat → Prop) (q : QAt) (B : Bts) (ns : List Nat) (ps : List Pg) (h : IsQ w G q B ns ps) (hG : ¬ G q.g) (k a : Int) (t : ByteArray) (ha : In64 a) (hts : t.size ≤ 140737488355328) :
    Calls Try.prog 16 #[.pointer (some ⟨q.y, 0, none⟩), .int .i64 k, .int .i64 a, .string t] w fun e w' => e = .returned (.int .i64 (soutE ns ps k a t.size)) ∧ IsQ w' G q (soutB ns ps B k a t.data.toList) ns ps ∧ Ch (onB q.g) w w' := by
  have kh := qhas_any w G q B ns ps h k
  have HQ : Hid (IsQ w G q B ns ps) := Lib.hid h
  by_cases hk : isP ns k
  · have hk0 := hk
    unfold isP at hk
    rw [decide_eq_true hk] at kh
    obtain ⟨i, rfl⟩ : ∃ i : Nat, k = (i : Int) := ⟨k.toNat, by omega⟩
    have hi : i < ns.length := by omega
    by_cases big : 255 < t.size
    · have e1 : soutE ns ps i a t.size = 122 := by unfold soutE; rw [if_pos hk0, if_pos big]
      have e2 : soutB ns ps B i a t.data.toList = B := by unfold soutB; rw [baList, e1, if_neg (by decide)]
      rw [e1, e2]
      have b1 : (255 : Int) < (t.size : Int) := by omega
      clear h e1 e2 hk0 big
      go_enter Try.func16, Try.ntmps16
      go_wp2_with (go_at_call 37; refine kh.mono ?_; rintro e w' ⟨rfl, rfl⟩)
      go_ret
      exact ⟨rfl, HQ.out, Ch.refl _ _⟩
    · have e1 : soutE ns ps i a t.size = if writeE ps.length (tabP ns ps i) a t.size = 0 then 0 else 121 := by unfold soutE; rw [if_pos hk0, if_neg big, Int.toNat_natCast]
      have b1 : ¬ (255 : Int) < (t.size : Int) := by omega
      obtain ⟨ta, tc, ct, ht⟩ := h.at i hi
      obtain ⟨c0, c1⟩ := h.cells
      have hd : Below w.heap.size w w.drew := ⟨rfl, rfl, rfl, Nat.le_refl _, fun _ _ => rfl⟩
      have KR := rwrite_any q.m q.g q.cap ps.length B w.drew (h.below hd).mem G hG _ _ (ht.below hd) a t ha (by omega)
      have hS0 : w.drew.cell? ⟨q.y, 0, none⟩ = some (.pointer (some ⟨q.m, 0, none⟩)) ∧ w.drew.cell? ⟨q.y, 1, none⟩ = some (.slice (some ⟨q.gt, 0, none⟩) ns.length q.ct) ∧ w.drew.cell? ⟨q.gt, i, none⟩ = some (.slice ta ns[i] tc) := ⟨c0, c1, ct⟩
      obtain ⟨E, hE⟩ : ∃ E, E = writeE ps.length (tabP ns ps i) a t.size := ⟨_, rfl⟩
      obtain ⟨S, hS⟩ : ∃ S, S = writeB ps.length (tabP ns ps i) B a t.data.toList := ⟨_, rfl⟩
      have e2 : soutB ns ps B i a t.data.toList = S := by
        unfold soutB
        rw [baList, e1, ← hE, Int.toNat_natCast, ← hS]
        by_cases z : E = 0
        · rw [if_pos (by rw [if_pos z])]
        · rw [if_neg (by rw [if_neg z]; decide), hS]
          unfold writeB
          rw [baList, ← hE, if_neg z]
      rw [e1, e2, ← hE]
      rw [← hE, ← hS] at KR
      have i1 : (i : Int) < (ns.length : Int) := by omega
      have i0 : (0 : Int) ≤ (i : Int) := by omega
      have kk : Calls Try.prog 43 #[.pointer (some ⟨q.m, 0, none⟩), .slice ta ns[i] tc, .int .i64 a, .string t] w.drew fun e u1 => e = .returned (.int .i64 E) ∧ (u1.cell? ⟨q.y, 0, none⟩ = some (.pointer (some ⟨q.m, 0, none⟩)) ∧ u1.cell? ⟨q.y, 1, none⟩ = some (.slice (some ⟨q.gt, 0, none⟩) ns.length q.ct) ∧ u1.cell? ⟨q.gt, i, none⟩ = some (.slice ta ns[i] tc)) ∧ Hid (IsQ u1 G q S ns ps ∧ Ch (onB q.g) w u1) := by
        refine KR.mono ?_
        rintro e u1 ⟨he, m1, c1'⟩
        have c1w : Ch (onB q.g) w u1 := ⟨c1'.os, c1'.tape, c1'.output, c1'.size, c1'.block⟩
        have hq := h.setMem hG m1 c1w
        obtain ⟨_, hmr, _⟩ := h.mem.row
        obtain ⟨cur, htt, _⟩ := h.tab
        have hgt : q.gt ≠ q.g := fun e => by rw [e, hmr] at htt; cases htt
        exact ⟨he, ⟨hq.cells.1, hq.cells.2, (World.cell?_of_block (a := ⟨q.gt, i, none⟩) (c1w.block _ h.lt.2.2.2 hgt)).trans ct⟩, hq, c1w⟩
      clear h e1 e2 hk0 hk big hE hS ht KR hd c0 c1 ct hG HQ
      generalize ns[i] = ni at *
      generalize hnn : ns.length = nn at *
      clear hi hnn
      by_cases z : E = 0
      · subst z
        rw [if_pos rfl]
        go_enter Try.func16, Try.ntmps16
        go_wp2_with (go_at_call 37; refine kh.mono ?_; rintro e w' ⟨rfl, rfl⟩)
        go_region_held3 (fun W => W.cell? ⟨q.y, 0, none⟩ = some (.pointer (some ⟨q.m, 0, none⟩)) ∧ W.cell? ⟨q.y, 1, none⟩ = some (.slice (some ⟨q.gt, 0, none⟩) nn q.ct) ∧ W.cell? ⟨q.gt, i, none⟩ = some (.slice ta ni tc)) (with_reducible first | exact hS0 | exact hS1)
          (first | (go_at_call 43; with_reducible refine kk.mono ?_; rintro e u1 ⟨rfl, hS1, HTF⟩; clear kk))
        go_wp2
        go_ret
        exact ⟨rfl, HTF.out⟩
      · rw [if_neg z]
        have z2 : (E != 0) = true := by simp [z]
        go_enter Try.func16, Try.ntmps16
        go_wp2_with (go_at_call 37; refine kh.mono ?_; rintro e w' ⟨rfl, rfl⟩)
        go_region_held3 (fun W => W.cell? ⟨q.y, 0, none⟩ = some (.pointer (some ⟨q.m, 0, none⟩)) ∧ W.cell? ⟨q.y, 1, none⟩ = some (.slice (some ⟨q.gt, 0, none⟩) nn q.ct) ∧ W.cell? ⟨q.gt, i, none⟩ = some (.slice ta ni tc)) (with_reducible first | exact hS0 | exact hS1)
          (first | (go_at_call 43; with_reducible refine kk.mono ?_; rintro e u1 ⟨rfl, hS1, HTF⟩; clear kk))
        go_wp2
        go_ret
        exact ⟨rfl, HTF.out⟩
  · have e1 : soutE ns ps k a t.size = 120 := by unfold soutE; rw [if_neg hk]
    have e2 : soutB ns ps B k a t.data.toList = B := by unfold soutB; rw [baList, e1, if_neg (by decide)]
    rw [e1, e2]
    unfold isP at hk
    rw [decide_eq_false hk] at kh
    clear h e1 e2 hk
    go_enter Try.func16, Try.ntmps16
    go_wp2_with (go_at_call 37; refine kh.mono ?_; rintro e w' ⟨rfl, rfl⟩)
    go_ret
    exact ⟨rfl, HQ.out, Ch.refl _ _⟩
end Go.Proofs.Ytedhefidfepclaa
