/- The document's space in memory: is a partition there, its table, bytes out of it and into it. No conditions. -/
import Derived.Test.YtedhefidfepclaaRfg
import Derived.Deep.RegionHeld3
namespace Go.Proofs.Ytedhefidfepclaa
open Go.RowKit Go.Maps
set_option linter.unusedVariables false
set_option linter.unusedSimpArgs false

/-- where the document's space lies -/
structure QAt where
  y : Nat
  m : Nat
  g : Nat
  cap : Nat
  gt : Nat
  ct : Nat
/-- the document's space at q.y: the same state as a space's; its tables' rows are blocks of G -/
structure IsQ (w : World) (G : Nat → Prop) (q : QAt) (B : Bts) (ns : List Nat) (ps : List Pg) : Prop where
  blk : w.heap[q.y]? = some (.cells #[.pointer (some ⟨q.m, 0, none⟩), .slice (some ⟨q.gt, 0, none⟩) ns.length q.ct] 81 (0, 0))
  mem : IsR w q.m q.g q.cap ps.length B
  tab : ∃ cur : Array Value, w.heap[q.gt]? = some (.cells cur 50 (0, 0)) ∧ ∀ k, k < ns.length → ∃ v, cur[k]? = some v ∧ TabV G w v (tabP ns ps k)
  sum : ps.length = ns.sum
  few : ns.length ≤ 8
  each : ∀ n ∈ ns, 1 ≤ n ∧ n ≤ 16
theorem IsQ.lt {w : World} {G : Nat → Prop} {q : QAt} {B : Bts} {ns : List Nat} {ps : List Pg} (h : IsQ w G q B ns ps) : q.y < w.heap.size ∧ q.m < w.heap.size ∧ q.g < w.heap.size ∧ q.gt < w.heap.size := by
  obtain ⟨_, ht, _⟩ := h.tab
  exact ⟨block_lt h.blk, h.mem.lt.1, h.mem.lt.2, block_lt ht⟩
theorem IsQ.keep {w w' : World} {G : Nat → Prop} {q : QAt} {B : Bts} {ns : List Nat} {ps : List Pg} (h : IsQ w G q B ns ps) (hs : w.heap.size ≤ w'.heap.size) (e1 : w'.heap[q.y]? = w.heap[q.y]?) (e2 : w'.heap[q.m]? = w.heap[q.m]?) (e3 : w'.heap[q.g]? = w.heap[q.g]?) (e4 : w'.heap[q.gt]? = w.heap[q.gt]?) (e : ∀ k, k < w.heap.size → G k → w'.heap[k]? = w.heap[k]?) : IsQ w' G q B ns ps := by
  obtain ⟨cur, ht, hc⟩ := h.tab
  refine ⟨e1.trans h.blk, h.mem.of_heap e2 e3, ⟨cur, e4.trans ht, fun k hk => ?_⟩, h.sum, h.few, h.each⟩
  obtain ⟨v, h1, h2⟩ := hc k hk
  exact ⟨v, h1, h2.of_heap hs e⟩
theorem IsQ.below {w w' : World} {G : Nat → Prop} {q : QAt} {B : Bts} {ns : List Nat} {ps : List Pg} (h : IsQ w G q B ns ps) (hb : Below w.heap.size w w') : IsQ w' G q B ns ps :=
  h.keep hb.size (hb.block _ h.lt.1) (hb.block _ h.lt.2.1) (hb.block _ h.lt.2.2.1) (hb.block _ h.lt.2.2.2) fun k hk _ => hb.block k hk
theorem IsQ.cells {w : World} {G : Nat → Prop} {q : QAt} {B : Bts} {ns : List Nat} {ps : List Pg} (h : IsQ w G q B ns ps) : w.cell? ⟨q.y, 0, none⟩ = some (.pointer (some ⟨q.m, 0, none⟩)) ∧ w.cell? ⟨q.y, 1, none⟩ = some (.slice (some ⟨q.gt, 0, none⟩) ns.length q.ct) :=
  ⟨by rw [cell_of_row _ _ _ _ _ _ h.blk]; rfl, by rw [cell_of_row _ _ _ _ _ _ h.blk]; rfl⟩
theorem tabV_slice {G : Nat → Prop} {w : World} {v : Value} {tp : List Pg} (h : TabV G w v tp) : ∃ q cap, v = .slice q tp.length cap := by
  obtain ⟨q, cap, e, _⟩ := h; exact ⟨q, cap, e⟩
theorem IsQ.at {w : World} {G : Nat → Prop} {q : QAt} {B : Bts} {ns : List Nat} {ps : List Pg} (h : IsQ w G q B ns ps) (k : Nat) (hk : k < ns.length) : ∃ a cap, w.cell? ⟨q.gt, k, none⟩ = some (.slice a ns[k] cap) ∧ TabV G w (.slice a ns[k] cap) (tabP ns ps k) := by
  obtain ⟨cur, ht, hc⟩ := h.tab
  obtain ⟨v, h1, h2⟩ := hc k hk
  obtain ⟨a, cap, rfl⟩ := tabV_slice h2
  rw [tabP_len h.sum k hk] at h1 h2
  exact ⟨a, cap, by rw [cell_of_row _ _ _ _ _ _ ht]; exact h1, h2⟩
set_option maxHeartbeats 1000000 in
theorem qhas_any (w : World) (G : Nat → Prop) (q : QAt) (B : Bts) (ns : List Nat) (ps : List Pg) (h : IsQ w G q B ns ps) (k : Int) :
    Calls Try.prog 37 #[.pointer (some ⟨q.y, 0, none⟩), .int .i64 k] w fun e w' => e = .returned (.bool (decide (0 ≤ k ∧ k < (ns.length : Int)))) ∧ w = w' := by
  have c1 := h.cells.2
  generalize ns.length = n at *
  clear h
  by_cases a : 0 ≤ k
  · by_cases b : k < (n : Int)
    · rw [decide_eq_true (show 0 ≤ k ∧ k < (n : Int) from ⟨a, b⟩)]
      go_enter Try.func37, Try.ntmps37
      go_wp2
      go_ret
      exact ⟨by first | rfl | simp, rfl⟩
    · rw [decide_eq_false (fun q : 0 ≤ k ∧ k < (n : Int) => b q.2)]
      go_enter Try.func37, Try.ntmps37
      go_wp2
      go_ret
      exact ⟨by first | rfl | (simp; omega), rfl⟩
  · rw [decide_eq_false (fun q : 0 ≤ k ∧ k < (n : Int) => a q.1)]
    go_enter Try.func37, Try.ntmps37
    go_wp2
    go_ret
    exact ⟨by first | rfl | simp, rfl⟩
theorem qtab_no (w : World) (G : Nat → Prop) (q : QAt) (B : Bts) (ns : List Nat) (ps : List Pg) (h : IsQ w G q B ns ps) (k : Int) (hk : ¬ isP ns k) :
    Calls Try.prog 52 #[.pointer (some ⟨q.y, 0, none⟩), .int .i64 k] w fun e w' => e = .returned (.slice none 0 0) ∧ w = w' := by
  have kh := qhas_any w G q B ns ps h k
  unfold isP at hk
  rw [decide_eq_false hk] at kh
  clear h hk
  go_enter Try.func52, Try.ntmps52
  go_wp2_with (go_at_call 37; refine kh.mono ?_; rintro e _ ⟨rfl, rfl⟩)
  go_ret
  exact ⟨rfl, rfl⟩
theorem qtab_any (w : World) (G : Nat → Prop) (q : QAt) (B : Bts) (ns : List Nat) (ps : List Pg) (h : IsQ w G q B ns ps) (i : Nat) (hi : i < ns.length) :
    Calls Try.prog 52 #[.pointer (some ⟨q.y, 0, none⟩), .int .i64 (i : Int)] w fun e w' => ∃ a cap, e = .returned (.slice a ns[i] cap) ∧ TabV G w (.slice a ns[i] cap) (tabP ns ps i) ∧ w = w' := by
  have kh := qhas_any w G q B ns ps h i
  rw [decide_eq_true (show 0 ≤ (i : Int) ∧ (i : Int) < (ns.length : Int) by omega)] at kh
  obtain ⟨a, cap, ct, ht⟩ := h.at i hi
  have c1 := h.cells.2
  have HT := Lib.hid ht
  have i1 : (i : Int) < (ns.length : Int) := by omega
  have i0 : (0 : Int) ≤ (i : Int) := by omega
  clear h ht
  generalize ns[i] = ni at *
  generalize ns.length = n at *
  clear hi
  go_enter Try.func52, Try.ntmps52
  go_wp2_with (go_at_call 37; refine kh.mono ?_; rintro e _ ⟨rfl, rfl⟩)
  go_ret
  exact ⟨_, _, rfl, HT.out, rfl⟩
set_option maxRecDepth 20000 in
set_option maxHeartbeats 4000000 in
theorem qin_any (w : World) (G : Nat → Prop) (q : QAt) (B : Bts) (ns : List Nat) (ps : List Pg) (h : IsQ w G q B ns ps) (k a n : Int) (ha : In64 a) :
    Calls Try.prog 14 #[.pointer (some ⟨q.y, 0, none⟩), .int .i64 k, .int .i64 a, .int .i64 n] w fun e w' => e = .returned (.tuple #[.string (ofL (sinS ns ps B k a n)), .int .i64 (sinE ns ps k a n)]) ∧ Below w.heap.size w w' := by
  have kh := qhas_any w G q B ns ps h k
  by_cases hk : isP ns k
  · have hk0 := hk
    unfold isP at hk
    rw [decide_eq_true hk] at kh
    obtain ⟨i, rfl⟩ : ∃ i : Nat, k = (i : Int) := ⟨k.toNat, by omega⟩
    have hi : i < ns.length := by omega
    by_cases big : n < 0 ∨ 255 < n
    · have e1 : sinE ns ps i a n = 122 := by unfold sinE; rw [if_pos hk0, if_pos big]
      have e2 : sinS ns ps B i a n = [] := by unfold sinS; rw [e1, if_neg (by decide)]
      rw [e1, e2, show ofL [] = ByteArray.mk #[] from rfl]
      clear h e1 e2 hk0
      by_cases b0 : n < 0
      · clear big
        go_enter Try.func14, Try.ntmps14
        go_wp2_with (go_at_call 37; refine kh.mono ?_; rintro e w' ⟨rfl, rfl⟩)
        go_ret2
        exact ⟨rfl, Below.refl _ _⟩
      · have b1 : 255 < n := by omega
        clear big
        go_enter Try.func14, Try.ntmps14
        go_wp2_with (go_at_call 37; refine kh.mono ?_; rintro e w' ⟨rfl, rfl⟩)
        go_ret2
        exact ⟨rfl, Below.refl _ _⟩
    · have e1 : sinE ns ps i a n = if readE ps.length (tabP ns ps i) a n 1 = 0 then 0 else 121 := by unfold sinE; rw [if_pos hk0, if_neg big, Int.toNat_natCast]
      have b0 : ¬ n < 0 := by omega
      have b1 : ¬ 255 < n := by omega
      obtain ⟨ta, tc, ct, ht⟩ := h.at i hi
      obtain ⟨c0, c1⟩ := h.cells
      have hd : Below w.heap.size w w.drew := ⟨rfl, rfl, rfl, Nat.le_refl _, fun _ _ => rfl⟩
      have KR := rread_any q.m q.g q.cap ps.length B w.drew (h.below hd).mem G _ _ (ht.below hd) a n 1 ha
      have HC : Hid (∀ W, Below w.heap.size w W → W.cell? ⟨q.y, 0, none⟩ = some (.pointer (some ⟨q.m, 0, none⟩)) ∧ W.cell? ⟨q.y, 1, none⟩ = some (.slice (some ⟨q.gt, 0, none⟩) ns.length q.ct) ∧ W.cell? ⟨q.gt, i, none⟩ = some (.slice ta ns[i] tc)) := Lib.hid fun W hW => ⟨(h.below hW).cells.1, (h.below hW).cells.2, cell_below ct hW⟩
      have hS0 := HC.out w.drew hd
      obtain ⟨E, hE⟩ : ∃ E, E = readE ps.length (tabP ns ps i) a n 1 := ⟨_, rfl⟩
      obtain ⟨S, hS⟩ : ∃ S, S = readS ps.length (tabP ns ps i) B a n 1 := ⟨_, rfl⟩
      have e2 : sinS ns ps B i a n = if E = 0 then S else [] := by
        unfold sinS
        rw [e1, ← hE, Int.toNat_natCast, ← hS]
        by_cases z : E = 0
        · simp [z]
        · simp [z]
      rw [e1, e2, ← hE]
      rw [← hE, ← hS] at KR
      have i1 : (i : Int) < (ns.length : Int) := by omega
      have i0 : (0 : Int) ≤ (i : Int) := by omega
      have kk : Calls Try.prog 41 #[.pointer (some ⟨q.m, 0, none⟩), .slice ta ns[i] tc, .int .i64 a, .int .i64 n, .int .i64 1] w.drew fun e u1 => e = .returned (.tuple #[.string (ofL S), .int .i64 E]) ∧ (u1.cell? ⟨q.y, 0, none⟩ = some (.pointer (some ⟨q.m, 0, none⟩)) ∧ u1.cell? ⟨q.y, 1, none⟩ = some (.slice (some ⟨q.gt, 0, none⟩) ns.length q.ct) ∧ u1.cell? ⟨q.gt, i, none⟩ = some (.slice ta ns[i] tc)) ∧ Hid (Below w.heap.size w u1) := by
        refine KR.mono ?_
        rintro e u1 ⟨he, b1⟩
        have g1 : Below w.heap.size w u1 := ⟨b1.os, b1.tape, b1.output, b1.size, b1.block⟩
        exact ⟨he, HC.out u1 g1, g1⟩
      clear h e1 e2 hk0 hk big hE hS ht KR hd c0 c1 ct
      generalize ns[i] = ni at *
      generalize ns.length = nn at *
      clear hi
      by_cases z : E = 0
      · subst z
        rw [if_pos rfl, if_pos rfl]
        go_enter Try.func14, Try.ntmps14
        go_wp2_with (go_at_call 37; refine kh.mono ?_; rintro e w' ⟨rfl, rfl⟩)
        go_region_held3 (fun W => W.cell? ⟨q.y, 0, none⟩ = some (.pointer (some ⟨q.m, 0, none⟩)) ∧ W.cell? ⟨q.y, 1, none⟩ = some (.slice (some ⟨q.gt, 0, none⟩) nn q.ct) ∧ W.cell? ⟨q.gt, i, none⟩ = some (.slice ta ni tc)) (with_reducible first | exact hS0 | exact hS1)
          (first | (go_at_call 41; with_reducible refine kk.mono ?_; rintro e u1 ⟨rfl, hS1, HTF⟩; clear kk))
        go_wp2
        go_ret2
        exact ⟨rfl, HTF.out⟩
      · rw [if_neg z, if_neg z, show ofL [] = ByteArray.mk #[] from rfl]
        have z2 : (E != 0) = true := by simp [z]
        go_enter Try.func14, Try.ntmps14
        go_wp2_with (go_at_call 37; refine kh.mono ?_; rintro e w' ⟨rfl, rfl⟩)
        go_region_held3 (fun W => W.cell? ⟨q.y, 0, none⟩ = some (.pointer (some ⟨q.m, 0, none⟩)) ∧ W.cell? ⟨q.y, 1, none⟩ = some (.slice (some ⟨q.gt, 0, none⟩) nn q.ct) ∧ W.cell? ⟨q.gt, i, none⟩ = some (.slice ta ni tc)) (with_reducible first | exact hS0 | exact hS1)
          (first | (go_at_call 41; with_reducible refine kk.mono ?_; rintro e u1 ⟨rfl, hS1, HTF⟩; clear kk))
        go_wp2
        go_ret2
        exact ⟨rfl, HTF.out⟩
  · have e1 : sinE ns ps k a n = 120 := by unfold sinE; rw [if_neg hk]
    have e2 : sinS ns ps B k a n = [] := by unfold sinS; rw [e1, if_neg (by decide)]
    rw [e1, e2, show ofL [] = ByteArray.mk #[] from rfl]
    unfold isP at hk
    rw [decide_eq_false hk] at kh
    clear h e1 e2 hk
    go_enter Try.func14, Try.ntmps14
    go_wp2_with (go_at_call 37; refine kh.mono ?_; rintro e w' ⟨rfl, rfl⟩)
    go_ret2
    exact ⟨rfl, Below.refl _ _⟩
end Go.Proofs.Ytedhefidfepclaa
