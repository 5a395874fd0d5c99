/- A program laid into a partition's memory: what the call returns. Conditions: numbers that a machine holds. -/
import Derived.Test.YtedhefidfepclaaSpc
namespace Go.Proofs.Ytedhefidfepclaa
open Go.RowKit Go.Maps
set_option linter.unusedVariables false

/-- the k-th piece of a program -/
def pcP (t : Bts) (k : Nat) : Bts := (t.drop (256 * k)).take 256
/-- the memory's bytes behind k pages, whose first one is page x -/
def ldB (F : Nat) (ps : List Pg) (x : Nat) (t : Bts) (B : Bts) : Nat → Bts
  | 0 => B
  | k + 1 => layB F (clrB F (ldB F ps x t B k) (ps.getD (x + k) (0, 0)).1) (ps.getD (x + k) (0, 0)).1 0 (pcP t k)
/-- the pages behind k of them -/
def ldP (ps : List Pg) (x : Nat) (t : Bts) : Nat → List Pg
  | 0 => ps
  | k + 1 => (ldP ps x t k).set (x + k) ((ps.getD (x + k) (0, 0)).1, if (pcP t k).length = 0 then 3 else 5)
theorem ldP_len (ps : List Pg) (x : Nat) (t : Bts) : ∀ k, (ldP ps x t k).length = ps.length
  | 0 => rfl
  | k + 1 => by rw [ldP, List.length_set, ldP_len ps x t k]
theorem ldP_later (ps : List Pg) (x : Nat) (t : Bts) : ∀ k j, x + k ≤ j → (ldP ps x t k).getD j (0, 0) = ps.getD j (0, 0)
  | 0, j, _ => rfl
  | k + 1, j, h => by
    rw [ldP, List.getD_eq_getElem?_getD, List.getElem?_set, if_neg (by omega), ← List.getD_eq_getElem?_getD]
    exact ldP_later ps x t k j (by omega)
/-- a page's rights have become others -/
theorem IsS.setPage {w : World} {s : SpAt} {B : Bts} {ns : List Nat} {ps : List Pg} (h : IsS w s B ns ps) (j : Nat) (hj : j < ps.length) (r : Int) : IsS (w.setCell ⟨s.gp, j * 2 + 1, none⟩ (.int .i64 r)) s B ns (ps.set j ((ps.getD j (0, 0)).1, r)) := by
  obtain ⟨n1, n2, n3, n4, n5, n6, n7⟩ := h.ne
  obtain ⟨c1, hp, hp2⟩ := h.pgs
  obtain ⟨c2, hq, hq2⟩ := h.bds
  have hl : (ps.set j ((ps.getD j (0, 0)).1, r)).length = ps.length := List.length_set
  refine ⟨?_, ?_, ⟨_, block_setCell hp, fun i hi => ?_⟩, ⟨c2, (block_setCell_other n7).trans hq, hq2⟩, by rw [hl]; exact h.sum, by rw [hl]; exact h.room, h.few, h.each⟩
  · rw [hl]; exact (block_setCell_other n4).trans h.blk
  · rw [hl]; exact h.mem.of_heap (block_setCell_other n5) (block_setCell_other n6)
  · rw [hl] at hi
    obtain ⟨e0, e1⟩ := hp2 i hi
    rw [Array.getElem?_setIfInBounds, Array.getElem?_setIfInBounds, if_neg (show ¬ j * 2 + 1 = i * 2 by omega)]
    rw [List.getD_eq_getElem?_getD, List.getElem?_set]
    by_cases e : j = i
    · subst e
      have hsz : j * 2 + 1 < c1.size := by
        have := (Array.getElem?_eq_some_iff.1 e1).1; exact this
      rw [if_pos rfl, if_pos hj, if_pos rfl, if_pos hsz]
      exact ⟨e0, rfl⟩
    · rw [if_neg e, if_neg (show ¬ j * 2 + 1 = i * 2 + 1 by omega), ← List.getD_eq_getElem?_getD]
      exact ⟨e0, e1⟩
theorem IsS.cell1 {w : World} {s : SpAt} {B : Bts} {ns : List Nat} {ps : List Pg} (h : IsS w s B ns ps) (j : Nat) (hj : j < ps.length) : w.cell? ⟨s.gp, j * 2 + 1, none⟩ = some (.int .i64 (ps.getD j (0, 0)).2) ∧ w.frozen? ⟨s.gp, j * 2 + 1, none⟩ = false := by
  obtain ⟨cur, hb, hc⟩ := h.pgs
  exact ⟨(h.page j hj).2, block_free hb⟩
def onS (s : SpAt) : Nat → Prop := fun k => k = s.g ∨ k = s.gp
/-- a page is cleared through a space -/
theorem sclear_at {W0 W : World} {s : SpAt} {B : Bts} {ns : List Nat} {ps : List Pg} (h : IsS W s B ns ps) (hc : Ch (onS s) W0 W) (X : Nat) (f r : Int) (hX : W.heap[X]? = some (.cells #[.int .i64 f, .int .i64 r] 56)) (hg : X ≠ s.g) :
    Calls Try.prog 35 #[.pointer (some ⟨s.pm, 0, none⟩), .int .i64 f] W fun e u => e = .returned (.int .i64 (if isF ps.length f then 0 else 83)) ∧ (u.cell? ⟨s.p, 0, none⟩ = some (.pointer (some ⟨s.pm, 0, none⟩)) ∧ u.cell? ⟨X, 0, none⟩ = some (.int .i64 f)) ∧ Hid (IsS u s (clrB ps.length B f) ns ps ∧ Ch (onS s) W0 u ∧ u.heap[X]? = some (.cells #[.int .i64 f, .int .i64 r] 56)) := by
  refine (clear_any s.pm s.g s.cap ps.length B W h.mem f).mono ?_
  rintro e u ⟨he, m, c⟩
  have hu : u.heap[X]? = some (.cells #[.int .i64 f, .int .i64 r] 56) := (c.block X (block_lt hX) hg).trans hX
  have hS := h.setMem m c
  exact ⟨he, ⟨hS.cells.1, by rw [cell_of_row _ _ _ _ _ _ hu]; rfl⟩, hS, hc.trans (fun k hk => .inl (.inl hk)) c, hu⟩
/-- a piece is laid through a space -/
theorem slay_at {W0 W : World} {s : SpAt} {B : Bts} {ns : List Nat} {ps : List Pg} (h : IsS W s B ns ps) (hc : Ch (onS s) W0 W) (X : Nat) (f r : Int) (hX : W.heap[X]? = some (.cells #[.int .i64 f, .int .i64 r] 56)) (hg : X ≠ s.g) (P : ByteArray) (hP : P.size < 140737488355328) :
    Calls Try.prog 36 #[.pointer (some ⟨s.pm, 0, none⟩), .int .i64 f, .int .i64 0, .string P] W fun e u => e = .returned (.int .i64 (layE ps.length f 0 P.size)) ∧ (u.cell? ⟨s.p, 0, none⟩ = some (.pointer (some ⟨s.pm, 0, none⟩)) ∧ u.cell? ⟨X, 0, none⟩ = some (.int .i64 f)) ∧ Hid (IsS u s (layB ps.length B f 0 P.data.toList) ns ps ∧ Ch (onS s) W0 u) := by
  refine (lay_any s.pm s.g s.cap ps.length B W h.mem f 0 P hP).mono ?_
  rintro e u ⟨he, m, c⟩
  have hu : u.heap[X]? = some (.cells #[.int .i64 f, .int .i64 r] 56) := (c.block X (block_lt hX) hg).trans hX
  have hS := h.setMem m c
  exact ⟨he, ⟨hS.cells.1, by rw [cell_of_row _ _ _ _ _ _ hu]; rfl⟩, hS, hc.trans (fun k hk => .inl (.inl hk)) c⟩
def sldE (ns : List Nat) (k : Int) (n : Nat) : Int := if isP ns k then (if 256 * ns.getD k.toNat 0 < n then 122 else 0) else 120
def sldB (ns : List Nat) (ps : List Pg) (B : Bts) (k : Int) (t : Bts) : Bts := if sldE ns k t.length = 0 then ldB ps.length ps (bnd ns k.toNat) t B (ns.getD k.toNat 0) else B
def sldP (ns : List Nat) (ps : List Pg) (k : Int) (t : Bts) : List Pg := if sldE ns k t.length = 0 then ldP ps (bnd ns k.toNat) t (ns.getD k.toNat 0) else ps
set_option maxRecDepth 20000 in
set_option maxHeartbeats 4000000 in
theorem sload_any (w : World) (s : SpAt) (B : Bts) (ns : List Nat) (ps : List Pg) (h : IsS w s B ns ps) (k : Int) (t : ByteArray) (hts : t.size ≤ 140737488355328) :
    Calls Try.prog 11 #[.pointer (some ⟨s.p, 0, none⟩), .int .i64 k, .string t] w fun e w' => e = .returned (.int .i64 (sldE ns k t.size)) ∧ IsS w' s (sldB ns ps B k t.data.toList) ns (sldP ns ps k t.data.toList) ∧ Ch (onS s) w w' := by
  have kh := shas_any w s B ns ps h k
  unfold sldB sldP
  rw [baList]
  have H := Lib.hid h
  by_cases hk : isP ns k
  · have hk0 := hk
    unfold isP at hk
    rw [show decide (0 ≤ k ∧ k < (ns.length : Int)) = true by simp [hk]] at kh
    obtain ⟨i, rfl⟩ : ∃ i : Nat, k = (i : Int) := ⟨k.toNat, by omega⟩
    have hi : i < ns.length := by omega
    have kt := stable_any w s B ns ps h i hi
    have he := h.each _ (List.getElem_mem hi)
    have hgD : ns.getD i 0 = ns[i] := by rw [List.getD_eq_getElem?_getD, List.getElem?_eq_getElem hi]; rfl
    have e0 : sldE ns (i : Int) t.size = if 256 * ns[i] < t.size then 122 else 0 := by unfold sldE; rw [if_pos hk0, Int.toNat_natCast, hgD]
    have hb1 := bnd_succ ns i hi
    have hb2 := bnd_le ns (i + 1)
    have hs := h.sum
    rw [Int.toNat_natCast, hgD]
    obtain ⟨m, hm⟩ : ∃ m, m = ns[i] := ⟨_, rfl⟩
    obtain ⟨x, hx⟩ : ∃ x, x = bnd ns i := ⟨_, rfl⟩
    rw [← hm] at kt e0 he hb1 ⊢
    rw [← hx] at kt hb1 ⊢
    have hxm : x + m ≤ ps.length := by omega
    by_cases big : 256 * m < t.size
    · rw [if_pos big] at e0
      rw [e0, if_neg (by decide), if_neg (by decide)]
      have bigI : (m : Int) * 256 < (t.size : Int) := by omega
      clear h e0 hk0 big hb1 hb2 hs hgD hm hx hk hi hxm
      go_enter Try.func11, Try.ntmps11
      go_wp2_with (first
        | (go_at_call 32; refine kh.mono ?_; rintro e _ ⟨rfl, rfl⟩)
        | (go_at_call 33; refine kt.mono ?_; rintro e w1 ⟨rfl, hb1⟩; have HB1 := Lib.hid hb1; clear hb1))
      go_ret
      exact ⟨rfl, H.out.below HB1.out, Ch.of_below HB1.out⟩
    · rw [if_neg big] at e0
      rw [e0, if_pos rfl, if_pos rfl]
      have bigI : ¬ (m : Int) * 256 < (t.size : Int) := by omega
      have hmI : (m : Int) ≤ 16 := by omega
      have HX := Lib.hid (And.intro hxm (And.intro he big))
      clear h e0 hk0 big hb1 hb2 hs hgD hm hx hk hi hxm he
      obtain ⟨T, hT⟩ : ∃ T, T = t.data.toList := ⟨_, rfl⟩
      rw [← hT]
      go_enter Try.func11, Try.ntmps11
      go_wp2_with (first
        | (go_at_call 32; refine kh.mono ?_; rintro e _ ⟨rfl, rfl⟩)
        | (go_at_call 33; refine kt.mono ?_; rintro e w1 ⟨rfl, hb1⟩; have HB1 := Lib.hid hb1; clear hb1))
      have HW : Hid (IsS w1 s B ns ps ∧ Ch (onS s) w w1) := Lib.hid ⟨H.out.below HB1.out, Ch.of_below HB1.out⟩
      go_loopw [2, 26] (fun u i wr => ∃ (k : Nat) (U : ByteArray), k ≤ m ∧ i = .int .i64 (k : Int) ∧ u = .string U ∧ U.data.toList = T.drop (256 * k) ∧ IsS wr s (ldB ps.length ps x T B k) ns (ldP ps x T k) ∧ Ch (onS s) w wr) (fun _ i _ => m - (intOf i).toNat)
      case atStart => exact ⟨0, t, Nat.zero_le _, rfl, rfl, by rw [hT]; rfl, HW.out.1, HW.out.2⟩
      case round =>
        obtain ⟨k, U, hk, rfl, rfl, hU, hS, hC⟩ := hrel
        by_cases a0 : k < m
        · have a0I : (k : Int) < (m : Int) := by omega
          have hj : x + k < (ldP ps x T k).length := by rw [ldP_len]; have := HX.out.1; omega
          have hSx : IsS (wr.alloc (.cells #[.int .i64 (ps.getD (x + k) (0, 0)).1, .int .i64 (ps.getD (x + k) (0, 0)).2] 56)) s (ldB ps.length ps x T B k) ns (ldP ps x T k) := hS.below ((Below.refl _ wr).alloc (Nat.le_refl _) _)
          have hCx : Ch (onS s) w (wr.alloc (.cells #[.int .i64 (ps.getD (x + k) (0, 0)).1, .int .i64 (ps.getD (x + k) (0, 0)).2] 56)) := hC.then_below ((Below.refl _ wr).alloc (Nat.le_refl _) _)
          have hNx : (wr.alloc (.cells #[.int .i64 (ps.getD (x + k) (0, 0)).1, .int .i64 (ps.getD (x + k) (0, 0)).2] 56)).heap[wr.heap.size]? = some (.cells #[.int .i64 (ps.getD (x + k) (0, 0)).1, .int .i64 (ps.getD (x + k) (0, 0)).2] 56) := block_new _ _
          have hlt := hSx.lt
          have hlt0 := hS.lt
          obtain ⟨c0, c1⟩ := hS.page (x + k) hj
          have f1 := (hSx.cell1 (x + k) hj).2
          have d1 := (hSx.cell1 (x + k) hj).1
          have hset := hSx.setPage (x + k) hj
          rw [ldP_later ps x T k (x + k) (Nat.le_refl _)] at c0 c1 hset d1
          obtain ⟨f, hf⟩ : ∃ f, f = (ps.getD (x + k) (0, 0)).1 := ⟨_, rfl⟩
          obtain ⟨r, hr⟩ : ∃ r, r = (ps.getD (x + k) (0, 0)).2 := ⟨_, rfl⟩
          rw [← hf, ← hr] at hSx hCx hset f1 d1 hNx
          rw [← hf] at c0
          rw [← hr] at c1
          rw [show (x + k) * 2 = x * 2 + k * 2 by omega] at c0 c1 f1 d1 hset
          have HS := Lib.hid (And.intro hS (And.intro hSx hCx))
          have HSET := Lib.hid (And.intro hset hNx)
          have HFR := Lib.hid (And.intro hf (And.intro hr hj))
          have HU := Lib.hid hU
          have HLT := Lib.hid hlt0
          clear hS hC hSx hCx hset hNx hf hr hj hU hlt hlt0
          by_cases big : 256 < U.size
          · have bigU : (256 : Int) < (U.size : Int) := by omega
            obtain ⟨P, hP⟩ : ∃ P, U.extract 0 256 = P := ⟨_, rfl⟩
            obtain ⟨R, hR⟩ : ∃ R, U.extract 256 U.size = R := ⟨_, rfl⟩
            have hPs : P.size = 256 := by rw [← hP, ByteArray.size_extract]; omega
            obtain ⟨q, hq⟩ : ∃ q : Int, q = (if P.size = 0 then 3 else 5) := ⟨_, rfl⟩
            have kr := rights_any P
            rw [← hq] at kr
            have HP := Lib.hid (And.intro hP (And.intro hR (And.intro hPs (And.intro hq big))))
            clear big hq
            go_wp2_with (go_at_call 34; refine (kr _).mono ?_; rintro e _ ⟨rfl, rfl⟩)
            obtain ⟨wy, hwy⟩ : ∃ wy, wy = (wr.alloc (.cells #[.int .i64 f, .int .i64 r] 56)).setCell ⟨s.gp, x * 2 + k * 2 + 1, none⟩ (.int .i64 q) := ⟨_, rfl⟩
            have hyS := HSET.out.1 q
            have hyX : wy.heap[wr.heap.size]? = some (.cells #[.int .i64 f, .int .i64 r] 56) := by rw [hwy, block_setCell_other (by have := HLT.out; show wr.heap.size ≠ s.gp; omega)]; exact HSET.out.2
            have hyC : Ch (onS s) w wy := by rw [hwy]; exact HS.out.2.2.setCell (p := s.gp) (Or.inr rfl) _ _
            rw [← hwy] at hyS ⊢
            clear hwy
            have hXg : wr.heap.size ≠ s.g := by have := HLT.out; omega
            obtain ⟨X, hX⟩ : ∃ X, X = wr.heap.size := ⟨_, rfl⟩
            rw [← hX] at hyX hXg ⊢
            have hlen : ((ldP ps x T k).set (x + k) (f, q)).length = ps.length := by rw [List.length_set, ldP_len]
            obtain ⟨ps1, hps1⟩ : ∃ ps1, ps1 = (ldP ps x T k).set (x + k) (f, q) := ⟨_, rfl⟩
            obtain ⟨B1, hB1⟩ : ∃ B1, B1 = ldB ps.length ps x T B k := ⟨_, rfl⟩
            rw [← hps1] at hyS hlen
            rw [← hB1] at hyS
            have HBP := Lib.hid (And.intro hps1 (And.intro hB1 hlen))
            have hyD : IsS wy.drew s B1 ns ps1 := hyS.below ⟨rfl, rfl, rfl, Nat.le_refl _, fun _ _ => rfl⟩
            have k1 := sclear_at hyD hyC.drew X f r hyX hXg
            obtain ⟨z1, hz1⟩ : ∃ z1 : Int, z1 = (if isF ps1.length f then 0 else 83) := ⟨_, rfl⟩
            rw [← hz1] at k1
            clear hz1
            have k2 : Hid (∀ W, Hid (IsS W s (clrB ps1.length B1 f) ns ps1 ∧ Ch (onS s) w W ∧ W.heap[X]? = some (.cells #[.int .i64 f, .int .i64 r] 56)) → _) := Lib.hid fun W hW => slay_at (W := W.drew) (hW.out.1.below ⟨rfl, rfl, rfl, Nat.le_refl _, fun _ _ => rfl⟩) hW.out.2.1.drew X f r hW.out.2.2 hXg P (by rw [hPs]; decide)
            have hS0 : wy.drew.cell? ⟨s.p, 0, none⟩ = some (.pointer (some ⟨s.pm, 0, none⟩)) ∧ wy.drew.cell? ⟨X, 0, none⟩ = some (.int .i64 f) := ⟨hyD.cells.1, by rw [cell_of_row _ _ _ _ _ _ (show wy.drew.heap[X]? = _ from hyX)]; rfl⟩
            clear hyS hyC hyX hyD hps1 hB1 hlen hXg hX
            go_region_held3 (fun W => W.cell? ⟨s.p, 0, none⟩ = some (.pointer (some ⟨s.pm, 0, none⟩)) ∧ W.cell? ⟨X, 0, none⟩ = some (.int .i64 f)) (first | exact hS0 | exact hS1)
              (first | (go_at_call 35; with_reducible refine k1.mono ?_; rintro e u1 ⟨rfl, hS1, HC1⟩; clear k1))
            go_wp2
            have k3 := k2.out u1 HC1
            have hS2 : u1.drew.cell? ⟨s.p, 0, none⟩ = some (.pointer (some ⟨s.pm, 0, none⟩)) ∧ u1.drew.cell? ⟨X, 0, none⟩ = some (.int .i64 f) := hS1
            clear k2 hS0
            obtain ⟨z2, hz2⟩ : ∃ z2 : Int, z2 = layE ps1.length f 0 P.size := ⟨_, rfl⟩
            rw [← hz2] at k3
            clear hz2
            go_region_held3 (fun W => W.cell? ⟨s.p, 0, none⟩ = some (.pointer (some ⟨s.pm, 0, none⟩)) ∧ W.cell? ⟨X, 0, none⟩ = some (.int .i64 f)) (first | exact hS1 | exact hS2 | exact hS3)
              (first | (go_at_call 36; with_reducible refine k3.mono ?_; rintro e u2 ⟨rfl, hS3, HC2⟩; clear k3))
            go_wp2
            have hqq := HP.out.2.2.2.1
            have eP : P.data.toList = pcP T k := by rw [← hP, ByteArray.data_extract, Array.toList_extract, List.extract_eq_take_drop, List.drop_zero, Nat.sub_zero, HU.out]; rfl
            have eR : R.data.toList = T.drop (256 * (k + 1)) := by
              rw [← hR, ByteArray.data_extract, Array.toList_extract, List.extract_eq_take_drop, HU.out, List.drop_drop, List.take_of_length_le]
              · rw [show 256 * k + 256 = 256 * (k + 1) by omega]
              · have := congrArg List.length HU.out
                rw [baList, List.length_drop] at this
                rw [List.length_drop]; omega
            have eq_ : q = if (pcP T k).length = 0 then 3 else 5 := by rw [← eP, baList]; exact hqq
            have hfin : layB ps1.length (clrB ps1.length B1 f) f 0 P.data.toList = ldB ps.length ps x T B (k + 1) := by rw [ldB, HBP.out.2.2, HBP.out.2.1, eP, HFR.out.1]
            have hpp : ps1 = ldP ps x T (k + 1) := by rw [ldP, HBP.out.1, ← eq_, ← HFR.out.1]
            have hl := HC2.out.1
            rw [hfin, hpp] at hl
            exact ⟨⟨k + 1, R, by omega, by simp, rfl, eR, hl, HC2.out.2⟩, by simp [intOf]; omega⟩
          · have bigU : ¬ (256 : Int) < (U.size : Int) := by omega
            obtain ⟨q, hq⟩ : ∃ q : Int, q = (if U.size = 0 then 3 else 5) := ⟨_, rfl⟩
            have kr := rights_any U
            rw [← hq] at kr
            have hUs : U.size ≤ 256 := by omega
            have HP := Lib.hid (And.intro hq hUs)
            clear big hq hUs
            go_wp2_with (go_at_call 34; refine (kr _).mono ?_; rintro e _ ⟨rfl, rfl⟩)
            obtain ⟨wy, hwy⟩ : ∃ wy, wy = (wr.alloc (.cells #[.int .i64 f, .int .i64 r] 56)).setCell ⟨s.gp, x * 2 + k * 2 + 1, none⟩ (.int .i64 q) := ⟨_, rfl⟩
            have hyS := HSET.out.1 q
            have hyX : wy.heap[wr.heap.size]? = some (.cells #[.int .i64 f, .int .i64 r] 56) := by rw [hwy, block_setCell_other (by have := HLT.out; show wr.heap.size ≠ s.gp; omega)]; exact HSET.out.2
            have hyC : Ch (onS s) w wy := by rw [hwy]; exact HS.out.2.2.setCell (p := s.gp) (Or.inr rfl) _ _
            rw [← hwy] at hyS ⊢
            clear hwy
            have hXg : wr.heap.size ≠ s.g := by have := HLT.out; omega
            obtain ⟨X, hX⟩ : ∃ X, X = wr.heap.size := ⟨_, rfl⟩
            rw [← hX] at hyX hXg ⊢
            have hlen : ((ldP ps x T k).set (x + k) (f, q)).length = ps.length := by rw [List.length_set, ldP_len]
            obtain ⟨ps1, hps1⟩ : ∃ ps1, ps1 = (ldP ps x T k).set (x + k) (f, q) := ⟨_, rfl⟩
            obtain ⟨B1, hB1⟩ : ∃ B1, B1 = ldB ps.length ps x T B k := ⟨_, rfl⟩
            rw [← hps1] at hyS hlen
            rw [← hB1] at hyS
            have HBP := Lib.hid (And.intro hps1 (And.intro hB1 hlen))
            have hyD : IsS wy.drew s B1 ns ps1 := hyS.below ⟨rfl, rfl, rfl, Nat.le_refl _, fun _ _ => rfl⟩
            have k1 := sclear_at hyD hyC.drew X f r hyX hXg
            obtain ⟨z1, hz1⟩ : ∃ z1 : Int, z1 = (if isF ps1.length f then 0 else 83) := ⟨_, rfl⟩
            rw [← hz1] at k1
            clear hz1
            have k2 : Hid (∀ W, Hid (IsS W s (clrB ps1.length B1 f) ns ps1 ∧ Ch (onS s) w W ∧ W.heap[X]? = some (.cells #[.int .i64 f, .int .i64 r] 56)) → _) := Lib.hid fun W hW => slay_at (W := W.drew) (hW.out.1.below ⟨rfl, rfl, rfl, Nat.le_refl _, fun _ _ => rfl⟩) hW.out.2.1.drew X f r hW.out.2.2 hXg U (by have := HP.out.2; omega)
            have hS0 : wy.drew.cell? ⟨s.p, 0, none⟩ = some (.pointer (some ⟨s.pm, 0, none⟩)) ∧ wy.drew.cell? ⟨X, 0, none⟩ = some (.int .i64 f) := ⟨hyD.cells.1, by rw [cell_of_row _ _ _ _ _ _ (show wy.drew.heap[X]? = _ from hyX)]; rfl⟩
            clear hyS hyC hyX hyD hps1 hB1 hlen hXg hX
            go_region_held3 (fun W => W.cell? ⟨s.p, 0, none⟩ = some (.pointer (some ⟨s.pm, 0, none⟩)) ∧ W.cell? ⟨X, 0, none⟩ = some (.int .i64 f)) (first | exact hS0 | exact hS1)
              (first | (go_at_call 35; with_reducible refine k1.mono ?_; rintro e u1 ⟨rfl, hS1, HC1⟩; clear k1))
            go_wp2
            have k3 := k2.out u1 HC1
            have hS2 : u1.drew.cell? ⟨s.p, 0, none⟩ = some (.pointer (some ⟨s.pm, 0, none⟩)) ∧ u1.drew.cell? ⟨X, 0, none⟩ = some (.int .i64 f) := hS1
            clear k2 hS0
            obtain ⟨z2, hz2⟩ : ∃ z2 : Int, z2 = layE ps1.length f 0 U.size := ⟨_, rfl⟩
            rw [← hz2] at k3
            clear hz2
            go_region_held3 (fun W => W.cell? ⟨s.p, 0, none⟩ = some (.pointer (some ⟨s.pm, 0, none⟩)) ∧ W.cell? ⟨X, 0, none⟩ = some (.int .i64 f)) (first | exact hS1 | exact hS2 | exact hS3)
              (first | (go_at_call 36; with_reducible refine k3.mono ?_; rintro e u2 ⟨rfl, hS3, HC2⟩; clear k3))
            go_wp2
            have hqq := HP.out.1
            have hul := congrArg List.length HU.out
            rw [baList, List.length_drop] at hul
            have eP : U.data.toList = pcP T k := by rw [pcP, HU.out, List.take_of_length_le]; rw [List.length_drop]; have := HP.out.2; omega
            have eR : ByteArray.empty.data.toList = T.drop (256 * (k + 1)) := by rw [List.drop_eq_nil_of_le]; rfl; have := HP.out.2; omega
            have eq_ : q = if (pcP T k).length = 0 then 3 else 5 := by rw [← eP, baList]; exact hqq
            have hfin : layB ps1.length (clrB ps1.length B1 f) f 0 U.data.toList = ldB ps.length ps x T B (k + 1) := by rw [ldB, HBP.out.2.2, HBP.out.2.1, eP, HFR.out.1]
            have hpp : ps1 = ldP ps x T (k + 1) := by rw [ldP, HBP.out.1, ← eq_, ← HFR.out.1]
            have hl := HC2.out.1
            rw [hfin, hpp] at hl
            exact ⟨⟨k + 1, ByteArray.empty, by omega, by simp, rfl, eR, hl, HC2.out.2⟩, by simp [intOf]; omega⟩
        · obtain rfl : k = m := by omega
          have HF := Lib.hid (And.intro hS hC)
          clear hS hC
          go_wp2
          go_ret
          exact ⟨rfl, HF.out.1, HF.out.2⟩
  · have e1 : sldE ns k t.size = 120 := by unfold sldE; rw [if_neg hk]
    rw [e1, if_neg (by decide), if_neg (by decide)]
    unfold isP at hk
    rw [show decide (0 ≤ k ∧ k < (ns.length : Int)) = false by simp; omega] at kh
    clear h e1 hk
    go_enter Try.func11, Try.ntmps11
    go_wp2_with (go_at_call 32; refine kh.mono ?_; rintro e w' ⟨rfl, rfl⟩)
    go_ret
    exact ⟨rfl, H.out, Ch.refl _ _⟩
end Go.Proofs.Ytedhefidfepclaa
