/- Bytes copied out of a partition's memory and into it: what the calls return. Conditions: numbers that a machine holds. -/
import Derived.Test.YtedhefidfepclaaSpa
import Derived.Deep.RegionHeld3
namespace Go.Proofs.Ytedhefidfepclaa
open Go.RowKit Go.Maps
set_option linter.unusedVariables false

theorem ne_type {W : World} {a b : Nat} {ca cb : Array Value} {ta tb : TypeId} {fa fb : Nat × Nat} (ha : W.heap[a]? = some (.cells ca ta fa)) (hb : W.heap[b]? = some (.cells cb tb fb)) (h : ta ≠ tb) : a ≠ b := fun e => by
  subst e; rw [ha] at hb; cases hb; exact h rfl
theorem IsS.ne {w : World} {s : SpAt} {B : Bts} {ns : List Nat} {ps : List Pg} (h : IsS w s B ns ps) : s.p ≠ s.g ∧ s.gp ≠ s.g ∧ s.gb ≠ s.g ∧ s.p ≠ s.gp ∧ s.pm ≠ s.gp ∧ s.g ≠ s.gp ∧ s.gb ≠ s.gp := by
  obtain ⟨cur, fr, hg, _⟩ := h.mem.row
  obtain ⟨_, hp, _⟩ := h.pgs
  obtain ⟨_, hb, _⟩ := h.bds
  have hm := h.mem.blk
  have hk := h.blk
  exact ⟨ne_type hk hg (by decide), ne_type hp hg (by decide), ne_type hb hg (by decide), ne_type hk hp (by decide), ne_type hm hp (by decide), ne_type hg hp (by decide), ne_type hb hp (by decide)⟩
/-- the memory's bytes have become others -/
theorem IsS.setMem {w w1 : World} {s : SpAt} {B B' : Bts} {ns : List Nat} {ps : List Pg} (h : IsS w s B ns ps) (m1 : IsM w1 s.pm s.g s.cap ps.length B') (c1 : Ch (onB s.g) w w1) : IsS w1 s B' ns ps := by
  obtain ⟨l1, l2, l3, l4, l5⟩ := h.lt
  obtain ⟨n1, n2, n3, _⟩ := h.ne
  obtain ⟨a1, hp, hp2⟩ := h.pgs
  obtain ⟨a2, hq, hq2⟩ := h.bds
  exact ⟨(c1.block _ l1 n1).trans h.blk, m1, ⟨a1, (c1.block _ l4 n2).trans hp, hp2⟩, ⟨a2, (c1.block _ l5 n3).trans hq, hq2⟩, h.sum, h.room, h.few, h.each⟩
def isP (ns : List Nat) (k : Int) : Prop := 0 ≤ k ∧ k < ns.length
instance (ns : List Nat) (k : Int) : Decidable (isP ns k) := by unfold isP; infer_instance
def sinE (ns : List Nat) (ps : List Pg) (k a n : Int) : Int := if isP ns k then (if n < 0 ∨ 255 < n then 122 else if readE ps.length (tabP ns ps k.toNat) a n 1 = 0 then 0 else 121) else 120
def sinS (ns : List Nat) (ps : List Pg) (B : Bts) (k a n : Int) : Bts := if sinE ns ps k a n = 0 then readS ps.length (tabP ns ps k.toNat) B a n 1 else []
def soutE (ns : List Nat) (ps : List Pg) (k a : Int) (n : Nat) : Int := if isP ns k then (if 255 < n then 122 else if writeE ps.length (tabP ns ps k.toNat) a n = 0 then 0 else 121) else 120
def soutB (ns : List Nat) (ps : List Pg) (B : Bts) (k a : Int) (t : Bts) : Bts := if soutE ns ps k a t.length = 0 then writeB ps.length (tabP ns ps k.toNat) B a t else B
set_option maxRecDepth 20000 in
set_option maxHeartbeats 4000000 in
theorem sin_any (w : World) (s : SpAt) (B : Bts) (ns : List Nat) (ps : List Pg) (h : IsS w s B ns ps) (k a n : Int) (ha : In64 a) :
    Calls Try.prog 13 #[.pointer (some ⟨s.p, 0, none⟩), .int .i64 k, .int .i64 a, .int .i64 n] w fun e w' => e = .returned (.tuple #[.string (ofL (sinS ns ps B k a n)), .int .i64 (sinE ns ps k a n)]) ∧ Below w.heap.size w w' := by
  have kh := shas_any w s B ns ps h k
  by_cases hk : isP ns k
  · have hk0 := hk
    unfold isP at hk
    rw [show decide (0 ≤ k ∧ k < (ns.length : Int)) = true by simp [hk]] at kh
    obtain ⟨i, rfl⟩ : ∃ i : Nat, k = (i : Int) := ⟨k.toNat, by omega⟩
    have hi : i < ns.length := by omega
    by_cases big : n < 0 ∨ 255 < n
    · have e1 : sinE ns ps i a n = 122 := by unfold sinE; rw [if_pos hk0, if_pos big]
      have e2 : sinS ns ps B i a n = [] := by unfold sinS; rw [e1, if_neg (by decide)]
      rw [e1, e2, show ofL [] = ByteArray.mk #[] from rfl]
      clear h e1 e2 hk0
      by_cases b0 : n < 0
      · clear big
        go_enter Try.func13, Try.ntmps13
        go_wp2_with (go_at_call 32; refine kh.mono ?_; rintro e w' ⟨rfl, rfl⟩)
        go_ret2
        exact ⟨rfl, Below.refl _ _⟩
      · have b1 : 255 < n := by omega
        clear big
        go_enter Try.func13, Try.ntmps13
        go_wp2_with (go_at_call 32; refine kh.mono ?_; rintro e w' ⟨rfl, rfl⟩)
        go_ret2
        exact ⟨rfl, Below.refl _ _⟩
    · have e1 : sinE ns ps i a n = if readE ps.length (tabP ns ps i) a n 1 = 0 then 0 else 121 := by unfold sinE; rw [if_pos hk0, if_neg big, Int.toNat_natCast]
      have b0 : ¬ n < 0 := by omega
      have b1 : ¬ 255 < n := by omega
      have kt := stable_any w.drew s B ns ps (h.below ⟨rfl, rfl, rfl, Nat.le_refl _, fun _ _ => rfl⟩) i hi
      have KR : Hid (∀ W, Below w.heap.size w W → Calls Try.prog 40 #[.pointer (some ⟨s.pm, 0, none⟩), .slice (some ⟨s.gp, bnd ns i * 2, none⟩) ns[i] ns[i], .int .i64 a, .int .i64 n, .int .i64 1] W fun e w' => e = .returned (.tuple #[.string (ofL (readS ps.length (tabP ns ps i) B a n 1)), .int .i64 (readE ps.length (tabP ns ps i) a n 1)]) ∧ Below W.heap.size W w') := Lib.hid fun W hW =>
        read_any s.pm s.g s.cap ps.length B W (h.below hW).mem _ _ _ ((h.below hW).tab i hi) a n 1 ha
      have HC : Hid (∀ W, Below w.heap.size w W → W.cell? ⟨s.p, 0, none⟩ = some (.pointer (some ⟨s.pm, 0, none⟩))) := Lib.hid fun W hW => (h.below hW).cells.1
      have hS0 := HC.out w.drew ⟨rfl, rfl, rfl, Nat.le_refl _, fun _ _ => rfl⟩
      obtain ⟨E, hE⟩ : ∃ E, E = readE ps.length (tabP ns ps i) a n 1 := ⟨_, rfl⟩
      obtain ⟨S, hS⟩ : ∃ S, S = readS ps.length (tabP ns ps i) B a n 1 := ⟨_, rfl⟩
      have e2 : sinS ns ps B i a n = if E = 0 then S else [] := by
        unfold sinS
        rw [e1, ← hE, Int.toNat_natCast, ← hS]
        by_cases z : E = 0
        · simp [z]
        · simp [z]
      rw [e1, e2, ← hE]
      rw [← hE, ← hS] at KR
      obtain ⟨m, hm⟩ : ∃ m, m = ns[i] := ⟨_, rfl⟩
      obtain ⟨x, hx⟩ : ∃ x, x = bnd ns i := ⟨_, rfl⟩
      rw [← hm, ← hx] at kt KR
      have kk : Calls Try.prog 33 #[.pointer (some ⟨s.p, 0, none⟩), .int .i64 (i : Int)] w.drew fun e u1 => e = .returned (.slice (some ⟨s.gp, x * 2, none⟩) m m) ∧ u1.cell? ⟨s.p, 0, none⟩ = some (.pointer (some ⟨s.pm, 0, none⟩)) ∧
          Calls Try.prog 40 #[.pointer (some ⟨s.pm, 0, none⟩), .slice (some ⟨s.gp, x * 2, none⟩) m m, .int .i64 a, .int .i64 n, .int .i64 1] u1 fun e u2 => e = .returned (.tuple #[.string (ofL S), .int .i64 E]) ∧ u2.cell? ⟨s.p, 0, none⟩ = some (.pointer (some ⟨s.pm, 0, none⟩)) ∧ Hid (Below w.heap.size w u2) := by
        refine kt.mono ?_
        rintro e u1 ⟨he, b1⟩
        have g1 : Below w.heap.size w u1 := ⟨b1.os, b1.tape, b1.output, b1.size, b1.block⟩
        refine ⟨he, HC.out u1 g1, ?_⟩
        refine (KR.out u1 g1).mono ?_
        rintro e u2 ⟨he, b2⟩
        have g2 := g1.trans (b2.mono g1.size)
        exact ⟨he, HC.out u2 g2, g2⟩
      clear h e1 e2 hk0 hk big hE hS hm hx kt hi
      by_cases z : E = 0
      · subst z
        rw [if_pos rfl, if_pos rfl]
        go_enter Try.func13, Try.ntmps13
        go_wp2_with (go_at_call 32; refine kh.mono ?_; rintro e w' ⟨rfl, rfl⟩)
        go_region_held3 (fun W => W.cell? ⟨s.p, 0, none⟩ = some (.pointer (some ⟨s.pm, 0, none⟩))) (first | exact hS0 | exact hS1 | exact hS2)
          (first
            | (go_at_call 33; with_reducible refine kk.mono ?_; rintro e u1 ⟨rfl, hS1, kk2⟩; clear kk)
            | (go_at_call 40; with_reducible refine kk2.mono ?_; rintro e u2 ⟨rfl, hS2, HTF⟩; clear kk2))
        go_wp2
        go_ret2
        exact ⟨rfl, HTF.out⟩
      · rw [if_neg z, if_neg z, show ofL [] = ByteArray.mk #[] from rfl]
        have z2 : (E != 0) = true := by simp [z]
        go_enter Try.func13, Try.ntmps13
        go_wp2_with (go_at_call 32; refine kh.mono ?_; rintro e w' ⟨rfl, rfl⟩)
        go_region_held3 (fun W => W.cell? ⟨s.p, 0, none⟩ = some (.pointer (some ⟨s.pm, 0, none⟩))) (first | exact hS0 | exact hS1 | exact hS2)
          (first
            | (go_at_call 33; with_reducible refine kk.mono ?_; rintro e u1 ⟨rfl, hS1, kk2⟩; clear kk)
            | (go_at_call 40; with_reducible refine kk2.mono ?_; rintro e u2 ⟨rfl, hS2, HTF⟩; clear kk2))
        go_wp2
        go_ret2
        exact ⟨rfl, HTF.out⟩
  · have e1 : sinE ns ps k a n = 120 := by unfold sinE; rw [if_neg hk]
    have e2 : sinS ns ps B k a n = [] := by unfold sinS; rw [e1, if_neg (by decide)]
    rw [e1, e2, show ofL [] = ByteArray.mk #[] from rfl]
    unfold isP at hk
    rw [show decide (0 ≤ k ∧ k < (ns.length : Int)) = false by simp; omega] at kh
    clear h e1 e2 hk
    go_enter Try.func13, Try.ntmps13
    go_wp2_with (go_at_call 32; refine kh.mono ?_; rintro e w' ⟨rfl, rfl⟩)
    go_ret2
    exact ⟨rfl, Below.refl _ _⟩
set_option maxRecDepth 20000 in
set_option maxHeartbeats 4000000 in
theorem sout_any (w : World) (s : SpAt) (B : Bts) (ns : List Nat) (ps : List Pg) (h : IsS w s B ns ps) (k a : Int) (t : ByteArray) (ha : In64 a) (hts : t.size ≤ 140737488355328) :
    Calls Try.prog 15 #[.pointer (some ⟨s.p, 0, none⟩), .int .i64 k, .int .i64 a, .string t] w fun e w' => e = .returned (.int .i64 (soutE ns ps k a t.size)) ∧ IsS w' s (soutB ns ps B k a t.data.toList) ns ps ∧ Ch (onB s.g) w w' := by
  have kh := shas_any w s B ns ps h k
  unfold soutB
  rw [baList]
  have H := Lib.hid h
  by_cases hk : isP ns k
  · have hk0 := hk
    unfold isP at hk
    rw [show decide (0 ≤ k ∧ k < (ns.length : Int)) = true by simp [hk]] at kh
    obtain ⟨i, rfl⟩ : ∃ i : Nat, k = (i : Int) := ⟨k.toNat, by omega⟩
    have hi : i < ns.length := by omega
    by_cases big : 255 < t.size
    · have e1 : soutE ns ps i a t.size = 122 := by unfold soutE; rw [if_pos hk0, if_pos big]
      rw [e1, if_neg (by decide)]
      have bigI : (255 : Int) < (t.size : Int) := by omega
      clear h e1 hk0 big
      go_enter Try.func15, Try.ntmps15
      go_wp2_with (go_at_call 32; refine kh.mono ?_; rintro e w' ⟨rfl, rfl⟩)
      go_ret
      exact ⟨rfl, H.out, Ch.refl _ _⟩
    · have e1 : soutE ns ps i a t.size = if writeE ps.length (tabP ns ps i) a t.size = 0 then 0 else 121 := by unfold soutE; rw [if_pos hk0, if_neg big, Int.toNat_natCast]
      have bigI : ¬ (255 : Int) < (t.size : Int) := by omega
      have kt := stable_any w.drew s B ns ps (h.below ⟨rfl, rfl, rfl, Nat.le_refl _, fun _ _ => rfl⟩) i hi
      have KR : Hid (∀ W, Below w.heap.size w W → Calls Try.prog 42 #[.pointer (some ⟨s.pm, 0, none⟩), .slice (some ⟨s.gp, bnd ns i * 2, none⟩) ns[i] ns[i], .int .i64 a, .string t] W fun e w' => e = .returned (.int .i64 (writeE ps.length (tabP ns ps i) a t.size)) ∧ IsM w' s.pm s.g s.cap ps.length (writeB ps.length (tabP ns ps i) B a t.data.toList) ∧ Ch (onB s.g) W w') := Lib.hid fun W hW =>
        write_any s.pm s.g s.cap ps.length B W (h.below hW).mem (fun b => b = s.gp) (fun e => h.ne.2.1 e.symm) _ _ ((h.below hW).tab i hi) a t ha (by omega)
      have HC : Hid (∀ W, Below w.heap.size w W → W.cell? ⟨s.p, 0, none⟩ = some (.pointer (some ⟨s.pm, 0, none⟩))) := Lib.hid fun W hW => (h.below hW).cells.1
      have hS0 := HC.out w.drew ⟨rfl, rfl, rfl, Nat.le_refl _, fun _ _ => rfl⟩
      obtain ⟨E, hE⟩ : ∃ E, E = writeE ps.length (tabP ns ps i) a t.size := ⟨_, rfl⟩
      have hB0 : ∀ z : ¬ E = 0, writeB ps.length (tabP ns ps i) B a t.data.toList = B := fun z => by
        unfold writeB
        rw [baList, ← hE, if_neg z]
      rw [← hE] at KR e1
      rw [e1, Int.toNat_natCast]
      obtain ⟨B', hB'⟩ : ∃ B', B' = writeB ps.length (tabP ns ps i) B a t.data.toList := ⟨_, rfl⟩
      rw [← hB'] at KR hB0 ⊢
      obtain ⟨m, hm⟩ : ∃ m, m = ns[i] := ⟨_, rfl⟩
      obtain ⟨x, hx⟩ : ∃ x, x = bnd ns i := ⟨_, rfl⟩
      rw [← hm, ← hx] at kt KR
      have kk : Calls Try.prog 33 #[.pointer (some ⟨s.p, 0, none⟩), .int .i64 (i : Int)] w.drew fun e u1 => e = .returned (.slice (some ⟨s.gp, x * 2, none⟩) m m) ∧ u1.cell? ⟨s.p, 0, none⟩ = some (.pointer (some ⟨s.pm, 0, none⟩)) ∧
          Calls Try.prog 42 #[.pointer (some ⟨s.pm, 0, none⟩), .slice (some ⟨s.gp, x * 2, none⟩) m m, .int .i64 a, .string t] u1 fun e u2 => e = .returned (.int .i64 E) ∧ u2.cell? ⟨s.p, 0, none⟩ = some (.pointer (some ⟨s.pm, 0, none⟩)) ∧ Hid (IsS u2 s B' ns ps ∧ Ch (onB s.g) w u2) := by
        refine kt.mono ?_
        rintro e u1 ⟨he, b1⟩
        have g1 : Below w.heap.size w u1 := ⟨b1.os, b1.tape, b1.output, b1.size, b1.block⟩
        refine ⟨he, HC.out u1 g1, ?_⟩
        refine (KR.out u1 g1).mono ?_
        rintro e u2 ⟨he, m2, c2⟩
        have s2 := (H.out.below g1).setMem m2 c2
        exact ⟨he, s2.cells.1, s2, (Ch.of_below g1).trans (Gr.refl _ _ _) c2⟩
      clear h e1 hk0 hk big hE hm hx kt hi hB'
      by_cases z : E = 0
      · subst z
        rw [if_pos rfl, if_pos rfl]
        clear hB0
        go_enter Try.func15, Try.ntmps15
        go_wp2_with (go_at_call 32; refine kh.mono ?_; rintro e w' ⟨rfl, rfl⟩)
        go_region_held3 (fun W => W.cell? ⟨s.p, 0, none⟩ = some (.pointer (some ⟨s.pm, 0, none⟩))) (first | exact hS0 | exact hS1 | exact hS2)
          (first
            | (go_at_call 33; with_reducible refine kk.mono ?_; rintro e u1 ⟨rfl, hS1, kk2⟩; clear kk)
            | (go_at_call 42; with_reducible refine kk2.mono ?_; rintro e u2 ⟨rfl, hS2, HTF⟩; clear kk2))
        go_wp2
        go_ret
        exact ⟨rfl, HTF.out.1, HTF.out.2⟩
      · rw [if_neg z, if_neg (by decide)]
        have hB := hB0 z
        have z2 : (E != 0) = true := by simp [z]
        subst hB
        clear hB0
        go_enter Try.func15, Try.ntmps15
        go_wp2_with (go_at_call 32; refine kh.mono ?_; rintro e w' ⟨rfl, rfl⟩)
        go_region_held3 (fun W => W.cell? ⟨s.p, 0, none⟩ = some (.pointer (some ⟨s.pm, 0, none⟩))) (first | exact hS0 | exact hS1 | exact hS2)
          (first
            | (go_at_call 33; with_reducible refine kk.mono ?_; rintro e u1 ⟨rfl, hS1, kk2⟩; clear kk)
            | (go_at_call 42; with_reducible refine kk2.mono ?_; rintro e u2 ⟨rfl, hS2, HTF⟩; clear kk2))
        go_wp2
        go_ret
        exact ⟨rfl, HTF.out.1, HTF.out.2⟩
  · have e1 : soutE ns ps k a t.size = 120 := by unfold soutE; rw [if_neg hk]
    rw [e1, if_neg (by decide)]
    unfold isP at hk
    rw [show decide (0 ≤ k ∧ k < (ns.length : Int)) = false by simp; omega] at kh
    clear h e1 hk
    go_enter Try.func15, Try.ntmps15
    go_wp2_with (go_at_call 32; refine kh.mono ?_; rintro e w' ⟨rfl, rfl⟩)
    go_ret
    exact ⟨rfl, H.out, Ch.refl _ _⟩
end Go.Proofs.Ytedhefidfepclaa
