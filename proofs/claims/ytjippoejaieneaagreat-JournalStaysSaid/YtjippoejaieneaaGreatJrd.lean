/- A cell is read while the power is there. Conditions: ints are within 64 bits. -/
import Derived.Test.YtjippoejaieneaaGreatJck
import Derived.Deep.RegionHeld3
namespace Go.Proofs.YtjippoejaieneaaGreat
open Go.RowKit Go.Maps
set_option maxRecDepth 20000
set_option linter.unusedVariables false

theorem rdE_live {S : St} {V : Dv} (hd : S.dead = false) (i : Int) : rdE S V i ≠ 2 := by
  unfold rdE refE
  rw [hd]
  simp only [Bool.false_eq_true, if_false]
  split
  · split
    · omega
    · omega
  · rcases parE_cases (sct S V i) with h | h | h <;> rw [h] <;> omega
set_option maxHeartbeats 2000000 in
/-- a home is read -/
theorem home_any (F : Nat → Prop) (j x p : Nat) (mv : Value) (S : St) (V : Dv) (J : Jn) (c : Nat) (w : World) (h : JX w F j x p mv S V J) (hd : S.dead = false) (ha : J.area + c ≤ 8192) (hm : V.mis < 4611686018427387904) :
    Calls Tryz.prog 53 #[.pointer (some ⟨j, 0, none⟩), .int .i64 (c : Int)] w fun e w' => e = .returned (.tuple #[.string (ofL (rdD S V ((J.area : Int) + (c : Int)))), .int .i64 (rdE S V ((J.area : Int) + (c : Int)))]) ∧ TX F w w' j x p mv S (rdV S V ((J.area : Int) + (c : Int))) J := by
  have hd0 : Below w.heap.size w w.drew := below_drew (Below.refl _ w)
  have hx := h.below hd0
  obtain ⟨c0, c1, _⟩ := hx.cells
  have hi : IntKind.i64.wrap ((J.area : Int) + (c : Int)) = ((J.area : Int) + (c : Int)) := by rw [IntKind.wrap_i64]; omega
  have KD := dread_any F x p S V ((J.area : Int) + (c : Int)) w.drew hx.ext hx.good.ok hx.good.fit hx.good.coh hm
  have hg := h.good.read ((J.area : Int) + (c : Int))
  have hne := rdE_live hd (V := V) ((J.area : Int) + (c : Int))
  have K2 : Hid (Calls Tryz.prog 80 #[.pointer (some ⟨x, 0, none⟩), .int .i64 ((J.area : Int) + (c : Int))] w.drew fun e w' => e = .returned (.tuple #[.string (ofL (rdD S V ((J.area : Int) + (c : Int)))), .int .i64 (rdN S V ((J.area : Int) + (c : Int))), .int .i64 (rdE S V ((J.area : Int) + (c : Int)))]) ∧ w'.cell? ⟨j, 0, none⟩ = some (.pointer (some ⟨x, 0, none⟩)) ∧ w'.cell? ⟨j, 1, none⟩ = some (.int .i64 (J.area : Int)) ∧ TX F w w' j x p mv S (rdV S V ((J.area : Int) + (c : Int))) J) := KD.mono fun e w' q => by
    have t := hx.to q.2 h.sok hg
    have tt := t
    obtain ⟨F', hx', _, _⟩ := tt
    obtain ⟨d0, d1, _⟩ := hx'.cells
    exact ⟨q.1, d0, d1, TX.trans (Gr.refl _ _ _) (Ch.of_below hd0) t⟩
  generalize rdD S V ((J.area : Int) + (c : Int)) = D at *
  generalize rdN S V ((J.area : Int) + (c : Int)) = N at *
  generalize rdE S V ((J.area : Int) + (c : Int)) = E at *
  generalize rdV S V ((J.area : Int) + (c : Int)) = V' at *
  have HC : Hid (w.drew.cell? ⟨j, 0, none⟩ = some (.pointer (some ⟨x, 0, none⟩)) ∧ w.drew.cell? ⟨j, 1, none⟩ = some (.int .i64 (J.area : Int))) := ⟨c0, c1⟩
  clear h hx KD hd0 hg c0 c1 hd
  go_enter Tryz.func53, Tryz.ntmps53
  go_wp2_with (fail)
  go_region_held3 (fun w' => w'.cell? ⟨j, 0, none⟩ = some (.pointer (some ⟨x, 0, none⟩)) ∧ w'.cell? ⟨j, 1, none⟩ = some (.int .i64 (J.area : Int)))
    (first
      | exact HC.out
      | exact ⟨d0, d1⟩)
    (first
      | (go_at_call 80; (with_reducible refine K2.out.mono ?_); rintro e w3 ⟨rfl, d0, d1, ht⟩; have HT := Lib.hid ht; clear ht))
  all_goals
    go_wp2_with (go_at_call 81; refine (give_no _ hne _).mono ?_; rintro e w4 ⟨rfl, rfl⟩)
    go_ret2
    exact ⟨rfl, HT.out⟩
/-- what a cell has -/
def celE (S : St) (V : Dv) (J : Jn) (c : Int) : Int := if isC J V c = false then 161 else match J.last c.toNat with | some _ => 0 | none => rdE S V ((J.area : Int) + c)
def celD (S : St) (V : Dv) (J : Jn) (c : Int) : Bts := if isC J V c = false then [] else match J.last c.toNat with | some d => d | none => rdD S V ((J.area : Int) + c)
def celV (S : St) (V : Dv) (J : Jn) (c : Int) : Dv := if isC J V c = false then V else match J.last c.toNat with | some _ => V | none => rdV S V ((J.area : Int) + c)
set_option maxHeartbeats 4000000 in
theorem jread_any (F : Nat → Prop) (j x p mb : Nat) (S : St) (V : Dv) (J : Jn) (c : Int) (w : World) (h : IsJ w F j x p mb S V J) (hd : S.dead = false) (hm : V.mis < 4611686018427387904) :
    Calls Tryz.prog 17 #[.pointer (some ⟨j, 0, none⟩), .int .i64 c] w fun e w' => e = .returned (.tuple #[.string (ofL (celD S V J c)), .int .i64 (celE S V J c)]) ∧ ToJ F w w' j x p mb S (celV S V J c) J := by
  obtain ⟨w2, hw2⟩ : ∃ w2, w2 = (w.alloc (.cells #[.pointer (some ⟨j, 0, none⟩)] 41)).alloc (.cells #[.int .i64 0] 29) := ⟨_, rfl⟩
  have hb2 : Below w.heap.size w w2 := by rw [hw2]; exact ((Below.refl _ w).alloc (Nat.le_refl _) _).alloc (by simp) _
  have s1 : (w.alloc (.cells #[.pointer (some ⟨j, 0, none⟩)] 41)).heap.size = w.heap.size + 1 := by simp
  have k0 : w2.heap[w.heap.size]? = some (.cells #[.pointer (some ⟨j, 0, none⟩)] 41 (0, 0)) := by rw [hw2]; exact block_alloc (block_new w _) _
  have k1 : w2.heap[w.heap.size + 1]? = some (.cells #[.int .i64 0] 29 (0, 0)) := by rw [hw2, ← s1]; exact block_new _ _
  have h2 := h.below hb2
  obtain ⟨_, _, _, _, _, c5, c6⟩ := h2.jx.cells
  rw [h.live] at c6
  have c0 := cell0 k0
  have c1 := cell0 k1
  have hbd := h.jx.bd
  have hjl := h.jx.lt
  have hok := h.ok
  have hc4 := h.c4
  have HW2 : Hid ((w.alloc (.cells #[.pointer (some ⟨j, 0, none⟩)] 41)).alloc (.cells #[.int .i64 0] 29) = w2) := hw2.symm
  have hml := h.map.lt
  have hnb : ∀ b, b = w.heap.size ∨ b = w.heap.size + 1 → ¬ JF F j mb b := fun b hb z => by
    rcases z with z | z | z
    · have := hbd _ z; omega
    · omega
    · omega
  have hsz2 : w2.heap.size = w.heap.size + 2 := by rw [hw2]; simp
  have HB2 := Lib.hid hb2
  have f1 : w2.frozen? ⟨w.heap.size + 1, 0, none⟩ = false := block_free k1
  have HEND : Hid (∀ w3, Below w2.heap.size w2 w3 → w3.cell? ⟨w.heap.size, 0, none⟩ = some (.pointer (some ⟨j, 0, none⟩)) ∧ w3.cell? ⟨w.heap.size + 1, 0, none⟩ = some (.int .i64 0) ∧ w3.frozen? ⟨w.heap.size + 1, 0, none⟩ = false ∧
      ∀ r, ToJ F w (w3.setCell ⟨w.heap.size + 1, 0, none⟩ (.int .i64 r)) j x p mb S V J ∧ (w3.setCell ⟨w.heap.size + 1, 0, none⟩ (.int .i64 r)).cell? ⟨w.heap.size + 1, 0, none⟩ = some (.int .i64 r)) := fun w3 hb3 => by
    have e0 := (hb3.block _ (block_lt k0)).trans k0
    have e1 := (hb3.block _ (block_lt k1)).trans k1
    exact ⟨cell0 e0, cell0 e1, block_free e1, fun r => ⟨(ToJ.refl h2 hb3).box HB2.out (Nat.le_succ _) (by omega) (hnb _ (.inr rfl)) _, cell0 (block_setCell e1)⟩⟩
  have KI := Lib.hid (isCell_any F j x p _ S V J c w2 h2.jx hok.a1)
  cases hz : isC J V c with
  | false =>
    have HE : Hid (celE S V J c = 161 ∧ celD S V J c = [] ∧ celV S V J c = V) := ⟨if_pos hz, if_pos hz, if_pos hz⟩
    rw [hz] at KI
    clear h h2 hbd k0 k1 hw2 s1 hb2 hnb hsz2 hd hm hok
    go_enter_defers Tryz.func17, Tryz.ntmps17
    go_wp2_with (first
      | (rw [HW2.out])
      | (go_at_call 52; (with_reducible refine KI.out.mono ?_); rintro e w3 ⟨rfl, hb3⟩; obtain ⟨x0, x1, x2, x4⟩ := HEND.out w3 hb3; have HX4 := Lib.hid (x4 161); clear x4))
    refine leaves_cons (f := 50) (args := #[.pointer (some ⟨w.heap.size, 0, none⟩), .pointer (some ⟨w.heap.size + 1, 0, none⟩)]) (by simp) (by simp [go_sem]) ?_
    refine (idle50 _ _ _).mono ?_
    rintro e u' w'' ⟨rfl, rfl, rfl⟩
    obtain ⟨hfc, hcl⟩ := HX4.out
    generalize w3.setCell ⟨w.heap.size + 1, 0, none⟩ (.int .i64 161) = w9 at *
    simp [Leaves, settle, results, Tryz.results17, go_sem, hcl]
    rw [HE.out.1, HE.out.2.1, HE.out.2.2]
    exact ⟨⟨rfl, rfl⟩, hfc⟩
  | true =>
    have hz2 := hz
    unfold isC at hz2
    simp only [Bool.and_eq_true, decide_eq_true_eq] at hz2
    obtain ⟨cn, rfl⟩ : ∃ cn : Nat, c = (cn : Int) := ⟨c.toNat, by omega⟩
    have hcn : cn < V.cnt - J.area := by omega
    have hmap := h2.map
    have hc5 : V.cnt - J.area ≤ 4096 := by omega
    rw [hz] at KI
    have KLK : Hid (∀ w3, Below w2.heap.size w2 w3 → (Instr.lookup 99 (.map (some mb)) (.int .i64 (cn : Int)) true).run Tryz.prog w3 = .ok (.tuple #[agB ((J.last cn).getD zD), .bool (J.last cn).isSome]) w3 ∧ w3.cell? ⟨j, 5, none⟩ = some (.map (some mb))) := fun w3 hb3 => by
      obtain ⟨_, _, _, _, _, z5, _⟩ := (h2.jx.below hb3).cells
      exact ⟨((hmap.of_heap (hb3.block mb hmap.lt)).look hc5 hcn).2, z5⟩
    cases hl : J.last cn with
    | some d =>
      have hdl : d.length = 116 := hok.last cn d hl
      have HE : Hid (celE S V J (cn : Int) = 0 ∧ celD S V J (cn : Int) = d ∧ celV S V J (cn : Int) = V) := by
        unfold celE celD celV Hid
        rw [hz, Int.toNat_natCast, hl]
        simp
      rw [hl] at KLK
      have HA : Hid (∀ w3, Below w2.heap.size w2 w3 → ∃ w4, (w3.alloc (.cells Tryz.zeroCells104 104)).setRow w3.heap.size (d.map cellB).toArray = w4 ∧ Below w2.heap.size w2 w4 ∧ Ar4 (w3.alloc (.cells Tryz.zeroCells104 104)) w3.heap.size (List.replicate 116 0) ∧ (convert 77 9 (.slice (some ⟨w3.heap.size, 0, none⟩) 116 116)).run Tryz.prog w4 = .ok (.string (ofL d)) w4) := fun w3 hb3 => by
        have hA0 := Ar4.made w3
        have hA4 : Ar4 _ w3.heap.size d := hA0.set
        have hcv := hA4.string (W := (w3.alloc (.cells Tryz.zeroCells104 104)).setRow w3.heap.size (d.map cellB).toArray) 116 116 (by omega) rfl
        rw [List.take_of_length_le (by omega)] at hcv
        exact ⟨_, rfl, hb3.trans ((below_setRow ((Below.refl _ w3).alloc (Nat.le_refl _) _) (Nat.le_refl _) _).mono hb3.size), hA0, hcv⟩
      clear h h2 hbd k0 k1 hw2 s1 hb2 hnb hsz2 hd hm hok hmap hl c5
      go_enter_defers Tryz.func17, Tryz.ntmps17
      go_wp2_with (first
        | (rw [HW2.out])
        | (go_at_call 52; (with_reducible refine KI.out.mono ?_); rintro e w3 ⟨rfl, hb3⟩; obtain ⟨hlk, z5⟩ := KLK.out w3 hb3; obtain ⟨w4, hw4, hb4, hA0, hcv⟩ := HA.out w3 hb3; have HW4 := Lib.hid hw4; have HA0 := Lib.hid hA0; obtain ⟨x0, x1, x2, x4⟩ := HEND.out w4 hb4; obtain ⟨y0, _⟩ := HEND.out w3 hb3; have HX4 := Lib.hid (x4 0); clear x4 hw4 hA0)
        | (refine wpList_st4 rfl (.tmp 6) (.tmp 24) rfl w3.heap.size rfl _ _ rfl HA0.out (by simp) hdl ?_; rw [HW4.out]))
      refine leaves_cons (f := 50) (args := #[.pointer (some ⟨w.heap.size, 0, none⟩), .pointer (some ⟨w.heap.size + 1, 0, none⟩)]) (by simp) (by simp [go_sem]) ?_
      refine (idle50 _ _ _).mono ?_
      rintro e u' w'' ⟨rfl, rfl, rfl⟩
      obtain ⟨hfc, hcl⟩ := HX4.out
      generalize w4.setCell ⟨w.heap.size + 1, 0, none⟩ (.int .i64 0) = w9 at *
      simp [Leaves, settle, results, Tryz.results17, go_sem, hcl]
      rw [HE.out.1, HE.out.2.1, HE.out.2.2]
      exact ⟨⟨rfl, rfl⟩, hfc⟩
    | none =>
      have HE : Hid (celE S V J (cn : Int) = rdE S V ((J.area : Int) + (cn : Int)) ∧ celD S V J (cn : Int) = rdD S V ((J.area : Int) + (cn : Int)) ∧ celV S V J (cn : Int) = rdV S V ((J.area : Int) + (cn : Int))) := by
        unfold celE celD celV Hid
        rw [hz, Int.toNat_natCast, hl]
        simp
      rw [hl] at KLK
      have HA : Hid (∀ w3, Below w2.heap.size w2 w3 → ∃ w4, (w3.alloc (.cells Tryz.zeroCells104 104)).setRow w3.heap.size (zD.map cellB).toArray = w4 ∧ Below w2.heap.size w2 w4 ∧ Ar4 (w3.alloc (.cells Tryz.zeroCells104 104)) w3.heap.size (List.replicate 116 0)) := fun w3 hb3 =>
        ⟨_, rfl, hb3.trans ((below_setRow ((Below.refl _ w3).alloc (Nat.le_refl _) _) (Nat.le_refl _) _).mono hb3.size), Ar4.made w3⟩
      have hzl : zD.length = 116 := rfl
      have KH : Hid (∀ w4, Below w2.heap.size w2 w4 → Calls Tryz.prog 53 #[.pointer (some ⟨j, 0, none⟩), .int .i64 (cn : Int)] w4 fun e w' => e = .returned (.tuple #[.string (ofL (rdD S V ((J.area : Int) + (cn : Int)))), .int .i64 (rdE S V ((J.area : Int) + (cn : Int)))]) ∧
          w'.cell? ⟨w.heap.size, 0, none⟩ = some (.pointer (some ⟨j, 0, none⟩)) ∧ w'.cell? ⟨w.heap.size + 1, 0, none⟩ = some (.int .i64 0) ∧ w'.frozen? ⟨w.heap.size + 1, 0, none⟩ = false ∧
          ∀ r, ToJ F w (w'.setCell ⟨w.heap.size + 1, 0, none⟩ (.int .i64 r)) j x p mb S (rdV S V ((J.area : Int) + (cn : Int))) J ∧ (w'.setCell ⟨w.heap.size + 1, 0, none⟩ (.int .i64 r)).cell? ⟨w.heap.size + 1, 0, none⟩ = some (.int .i64 r)) := fun w4 hb4 => by
        have h4 := h2.below hb4
        refine (home_any F j x p _ S V J cn w4 h4.jx hd (by have := hok.a1; omega) hm).mono fun e w5 q => ?_
        have hb24 := hb4
        have t : TX F w2 w5 j x p (.map (some mb)) S (rdV S V ((J.area : Int) + (cn : Int))) J := TX.trans (Gr.refl _ _ _) (Ch.of_below hb4) q.2
        have tt := t
        obtain ⟨F5, _, _, ch5⟩ := tt
        have e0 := box_kept hbd ch5 (Nat.le_refl _) k0
        have e1 := box_kept hbd ch5 (Nat.le_succ _) k1
        have hcnt : (rdV S V ((J.area : Int) + (cn : Int))).cnt = V.cnt := (rdV_cnt S V _).2.1
        exact ⟨q.1, cell0 e0, cell0 e1, block_free e1, fun r => ⟨(h2.tx t hcnt).box HB2.out (Nat.le_succ _) (by omega) (hnb _ (.inr rfl)) _, cell0 (block_setCell e1)⟩⟩
      generalize rdD S V ((J.area : Int) + (cn : Int)) = D at *
      generalize rdE S V ((J.area : Int) + (cn : Int)) = E at *
      generalize rdV S V ((J.area : Int) + (cn : Int)) = V' at *
      clear h h2 hbd k0 k1 hw2 s1 hb2 hnb hsz2 hd hm hok hmap hl c5
      go_enter_defers Tryz.func17, Tryz.ntmps17
      go_wp2_with (first
        | (rw [HW2.out])
        | (go_at_call 52; (with_reducible refine KI.out.mono ?_); rintro e w3 ⟨rfl, hb3⟩; obtain ⟨hlk, z5⟩ := KLK.out w3 hb3; obtain ⟨w4, hw4, hb4, hA0⟩ := HA.out w3 hb3; have HW4 := Lib.hid hw4; have HA0 := Lib.hid hA0; obtain ⟨x0, x1, x2, x4⟩ := HEND.out w4 hb4; obtain ⟨y0, _⟩ := HEND.out w3 hb3; clear x4 hw4 hA0)
        | (refine wpList_st4 rfl (.tmp 6) (.tmp 24) rfl w3.heap.size rfl _ _ rfl HA0.out (by simp) hzl ?_; rw [HW4.out])
        | (go_at_call 53; (with_reducible refine (KH.out w4 hb4).mono ?_); rintro e w5 ⟨rfl, v0, v1, v2, v4⟩; have HX4 := Lib.hid (v4 E); clear v4))
      refine leaves_cons (f := 50) (args := #[.pointer (some ⟨w.heap.size, 0, none⟩), .pointer (some ⟨w.heap.size + 1, 0, none⟩)]) (by simp) (by simp [go_sem]) ?_
      refine (idle50 _ _ _).mono ?_
      rintro e u' w'' ⟨rfl, rfl, rfl⟩
      obtain ⟨hfc, hcl⟩ := HX4.out
      generalize w5.setCell ⟨w.heap.size + 1, 0, none⟩ (.int .i64 E) = w9 at *
      simp [Leaves, settle, results, Tryz.results17, go_sem, hcl]
      rw [HE.out.1, HE.out.2.1, HE.out.2.2]
      exact ⟨⟨rfl, rfl⟩, hfc⟩
end Go.Proofs.YtjippoejaieneaaGreat
