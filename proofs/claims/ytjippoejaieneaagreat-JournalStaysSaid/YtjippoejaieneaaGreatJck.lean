/- A checkpoint. Conditions: ints are within 64 bits. -/
import Derived.Test.YtjippoejaieneaaGreatJfa
namespace Go.Proofs.YtjippoejaieneaaGreat
open Go.RowKit Go.Maps
set_option maxRecDepth 20000
set_option linter.unusedVariables false

def ckE (J : Jn) : Int := if J.head = 4611686018427387904 then 160 else 0
def ckNo (J : Jn) : Prop := J.head = 4611686018427387904 ∨ J.en ≤ 2
instance (J : Jn) : Decidable (ckNo J) := by unfold ckNo; infer_instance
def ckS (J : Jn) (V : Dv) : List Stp := if ckNo J then [] else homeS J.area J.last (keysN (V.cnt - J.area) J.last) J.head J.next
def ckJ (J : Jn) : Jn := if ckNo J then J else J0 (J.head + 1) J.next J
theorem ckJ_ok {J : Jn} {V : Dv} (h : J.ok V) : (ckJ J).ok V := by
  unfold ckJ
  split
  · exact h
  · rename_i q
    have hq : ¬ J.head = 4611686018427387904 := fun z => q (.inl z)
    have := h.h1; have := h.h0; have := h.a0
    exact ⟨h.a0, h.a1, by show 2 ≤ J.head + 1; omega, by show J.head + 1 ≤ _; omega, h.n0, h.n1, by show (2 : Int) ≤ 2; omega, by show (2 : Int) ≤ (J.area : Int); omega, fun i d z => nomatch z⟩
theorem ToJ.refl {w w' : World} {F : Nat → Prop} {j x p mb : Nat} {S : St} {V : Dv} {J : Jn} (h : IsJ w F j x p mb S V J) (hb : Below w.heap.size w w') : ToJ F w w' j x p mb S V J := ⟨F, mb, h.below hb, Gr.refl _ _ _, Ch.of_below hb⟩
theorem Jn.ok.cnt {J : Jn} {V V' : Dv} (h : J.ok V) (e : V'.cnt = V.cnt) : J.ok V' := ⟨h.a0, by rw [e]; exact h.a1, h.h0, h.h1, h.n0, h.n1, h.e0, h.e1, h.last⟩
/-- what a call within does -/
def Inner (l : List Stp) (r : Ending) (J' : Jn) (F : Nat → Prop) (w : World) (j x p mb : Nat) (S : St) (V : Dv) (J : Jn) (e : Ending) (w' : World) : Prop :=
  (gone l S V = true ∧ e = .panicked [{ v := .iface 156 (.agg #[]), recovered := false }] ∧ TX F w w' j x p (.map (some mb)) (runS l S V).1 (runS l S V).2 J) ∨
  (gone l S V = false ∧ e = r ∧ ToJ F w w' j x p mb (runS l S V).1 (runS l S V).2 J')
theorem lay_inner {l : List Stp} {F : Nat → Prop} {w w' : World} {j x p mb : Nat} {S : St} {V : Dv} {J : Jn} {h n : Int} {e : Ending} (hj : IsJ w F j x p mb S V J) (hok : (J0 h n J).ok V) (k : LayPost F w j x p (.map (some mb)) S V J l h n e w') : Inner l (.returned (.tuple #[])) (J0 h n J) F w j x p mb S V J e w' := by
  rcases k with ⟨k1, k2, k3⟩ | ⟨k1, k2, F', m, k3, k4, k5, k6, k7, k8, k9⟩
  · exact .inl ⟨k1, k2, k3⟩
  · refine .inr ⟨k1, k2, F', m, ⟨k3, k4 _, k9, fun e => by have := hj.jx.lt; omega, hok.cnt (run_cnt hj.jx.sok hj.jx.good), hj.live⟩, ?_, ?_⟩
    · intro k hk
      rcases hk with hk | hk | hk
      · exact (k5 k hk).imp .inl id
      · exact .inl (.inr (.inl hk))
      · exact .inr (by omega)
    · exact ⟨k6.os, k6.tape, k6.output, k6.size, fun k hk hn => k6.block k hk (fun z => hn (z.elim .inl (fun e => .inr (.inl e))))⟩
set_option maxHeartbeats 2000000 in
theorem ckp_any (F : Nat → Prop) (j x p mb : Nat) (S : St) (V : Dv) (J : Jn) (w : World) (h : IsJ w F j x p mb S V J) :
    Calls Tryz.prog 59 #[.pointer (some ⟨j, 0, none⟩)] w (Inner (ckS J V) (.returned (.int .i64 (ckE J))) (ckJ J) F w j x p mb S V J) := by
  obtain ⟨_, _, c2, c3, c4, _⟩ := h.jx.cells
  have hok := h.ok
  have hc := h.c4
  by_cases q : ckNo J
  · have e1 : ckS J V = [] := by unfold ckS; rw [if_pos q]
    have e2 : ckJ J = J := by unfold ckJ; rw [if_pos q]
    rw [e1, e2]
    have HF : Hid (∀ r : Ending, Inner [] r J F w j x p mb S V J r w) := fun r => .inr ⟨rfl, rfl, ToJ.refl h (Below.refl _ _)⟩
    clear h e1 e2 hok
    by_cases a : J.head = 4611686018427387904
    · have HE : Hid (ckE J = 160) := by unfold ckE Hid; rw [if_pos a]
      go_enter Tryz.func59, Tryz.ntmps59
      go_wp2
      go_ret
      rw [HE.out]
      exact HF.out _
    · have HE : Hid (ckE J = 0) := by unfold ckE Hid; rw [if_neg a]
      have b : ¬ (2 : Int) < J.en := by have := q.resolve_left a; omega
      go_enter Tryz.func59, Tryz.ntmps59
      go_wp2
      go_ret
      rw [HE.out]
      exact HF.out _
  · have a : ¬ J.head = 4611686018427387904 := fun z => q (.inl z)
    have b : (2 : Int) < J.en := by have : ¬ J.en ≤ 2 := fun z => q (.inr z); omega
    have e1 : ckS J V = homeS J.area J.last (keysN (V.cnt - J.area) J.last) J.head J.next := by unfold ckS; rw [if_neg q]
    have e2 : ckJ J = J0 (J.head + 1) J.next J := by unfold ckJ; rw [if_neg q]
    have hko := ckJ_ok hok
    rw [e2] at hko
    rw [e1, e2]
    have e3 : ckE J = 0 := by unfold ckE; rw [if_neg a]
    have KL := layHome_any F j x p mb (V.cnt - J.area) S V J J.next w h.jx h.map (by omega) h.mF hok.last (by have := hok.a1; omega) (by have := hok.h0; omega) hok.h1
    generalize homeS J.area J.last (keysN (V.cnt - J.area) J.last) J.head J.next = L at *
    have K2 : Hid (Calls Tryz.prog 94 #[.pointer (some ⟨j, 0, none⟩), .int .i64 J.next] w (Inner L (.returned (.tuple #[])) (J0 (J.head + 1) J.next J) F w j x p mb S V J)) := KL.mono fun e w' k => lay_inner h hko k
    rw [e3]
    clear h hok hko KL e1 e2 e3 q hc
    by_cases g : gone L S V = true
    · go_enter Tryz.func59, Tryz.ntmps59
      go_wp2_with (go_at_call 94; (with_reducible refine K2.out.mono ?_); intro e w1 hk; obtain ⟨rfl, ht⟩ : e = .panicked [{ v := .iface 156 (.agg #[]), recovered := false }] ∧ TX F w w1 j x p (.map (some mb)) (runS L S V).1 (runS L S V).2 J := (hk.elim (fun z => z.2) (fun z => by rw [g] at z; cases z.1)))
      exact ⟨rfl, .inl ⟨g, rfl, ht⟩⟩
    · have g2 : gone L S V = false := by simpa using g
      go_enter Tryz.func59, Tryz.ntmps59
      go_wp2_with (go_at_call 94; (with_reducible refine K2.out.mono ?_); intro e w1 hk; obtain ⟨rfl, ht⟩ : e = .returned (.tuple #[]) ∧ ToJ F w w1 j x p mb (runS L S V).1 (runS L S V).2 (J0 (J.head + 1) J.next J) := (hk.elim (fun z => by rw [g2] at z; cases z.1) (fun z => z.2)); have HT := Lib.hid ht; clear hk ht)
      go_ret
      exact .inr ⟨g2, rfl, HT.out⟩
set_option maxHeartbeats 2000000 in
theorem checkpoint_any (F : Nat → Prop) (j x p mb : Nat) (S : St) (V : Dv) (J : Jn) (w : World) (h : IsJ w F j x p mb S V J) :
    Calls Tryz.prog 31 #[.pointer (some ⟨j, 0, none⟩)] w (Face (ckS J V) (ckE J) (ckJ J) F w j x p mb S V J) := by
  obtain ⟨w2, hw2⟩ : ∃ w2, w2 = (w.alloc (.cells #[.pointer (some ⟨j, 0, none⟩)] 41)).alloc (.cells #[.int .i64 0] 29) := ⟨_, rfl⟩
  have hb2 : Below w.heap.size w w2 := by rw [hw2]; exact ((Below.refl _ w).alloc (Nat.le_refl _) _).alloc (by simp) _
  have s1 : (w.alloc (.cells #[.pointer (some ⟨j, 0, none⟩)] 41)).heap.size = w.heap.size + 1 := by simp
  have k0 : w2.heap[w.heap.size]? = some (.cells #[.pointer (some ⟨j, 0, none⟩)] 41 (0, 0)) := by rw [hw2]; exact block_alloc (block_new w _) _
  have k1 : w2.heap[w.heap.size + 1]? = some (.cells #[.int .i64 0] 29 (0, 0)) := by rw [hw2, ← s1]; exact block_new _ _
  have h2 := h.below hb2
  obtain ⟨_, _, _, _, _, _, c6⟩ := h2.jx.cells
  have c0 := cell0 k0
  have c1 := cell0 k1
  have hl := h.live
  have hbd := h.jx.bd
  have hjl := h.jx.lt
  have KB := Lib.hid (ckp_any F j x p mb S V J w2 h2)
  have HW2 : Hid ((w.alloc (.cells #[.pointer (some ⟨j, 0, none⟩)] 41)).alloc (.cells #[.int .i64 0] 29) = w2) := hw2.symm
  have hml := h.map.lt
  have hnb : ∀ b, b = w.heap.size ∨ b = w.heap.size + 1 → ¬ JF F j mb b := fun b hb z => by
    rcases z with z | z | z
    · have := hbd _ z; omega
    · omega
    · omega
  have hsz2 : w2.heap.size = w.heap.size + 2 := by rw [hw2]; simp
  have HB2 := Lib.hid hb2
  generalize ckS J V = L at *
  generalize ckJ J = J' at *
  generalize ckE J = E at *
  by_cases q1 : gone L S V = true
  · have HE : Hid (∀ w3, TX F w2 w3 j x p (.map (some mb)) (runS L S V).1 (runS L S V).2 J → w3.cell? ⟨w.heap.size, 0, none⟩ = some (.pointer (some ⟨j, 0, none⟩)) ∧ w3.cell? ⟨w.heap.size + 1, 0, none⟩ = some (.int .i64 0) ∧ w3.frozen? ⟨w.heap.size + 1, 0, none⟩ = false ∧ w3.heap[j]? = some (.cells (jcells x J (.map (some mb))) 101 (0, 0)) ∧
        Face L E J' F w j x p mb S V J (.returned (.int .i64 2)) ((deadW w3 j).setCell ⟨w.heap.size + 1, 0, none⟩ (.int .i64 2)) ∧ ((deadW w3 j).setCell ⟨w.heap.size + 1, 0, none⟩ (.int .i64 2)).cell? ⟨w.heap.size + 1, 0, none⟩ = some (.int .i64 2)) := fun w3 t => by
      obtain ⟨F3, hx3, g3, c3⟩ := t
      have e0 := box_kept hbd c3 (Nat.le_refl _) k0
      have e1 := box_kept hbd c3 (Nat.le_succ _) k1
      refine ⟨cell0 e0, cell0 e1, block_free e1, hx3.blk, .inl ⟨q1, rfl, (dead_tx ⟨F3, hx3, g3, c3⟩).box HB2.out (Nat.le_succ _) (by omega) (hnb _ (.inr rfl)) _⟩, ?_⟩
      have e2 : (deadW w3 j).heap[w.heap.size + 1]? = some (.cells #[.int .i64 0] 29 (0, 0)) := by
        unfold deadW
        rw [block_setCell_other (by show w.heap.size + 1 ≠ j; omega), block_setCell_other (by show w.heap.size + 1 ≠ j; omega)]; exact e1
      exact cell0 (block_setCell e2)
    clear h h2 hbd k0 k1 hw2 s1 hb2 hnb hsz2
    go_enter_defers Tryz.func31, Tryz.ntmps31
    go_wp2_with (first
      | (rw [HW2.out])
      | (go_at_call 59; (with_reducible refine KB.out.mono ?_); intro e w3 hd; obtain ⟨rfl, ht⟩ : e = .panicked [{ v := .iface 156 (.agg #[]), recovered := false }] ∧ TX F w2 w3 j x p (.map (some mb)) (runS L S V).1 (runS L S V).2 J := (hd.elim (fun z => z.2) (fun z => by rw [q1] at z; cases z.1)); obtain ⟨x0, x1, x2, x3, x4⟩ := HE.out w3 ht; have HX4 := Lib.hid x4; clear hd ht x4))
    refine leaves_cons (f := 66) (args := #[.pointer (some ⟨w.heap.size, 0, none⟩), .pointer (some ⟨w.heap.size + 1, 0, none⟩)]) (by simp) (by simp [go_sem]) ?_
    refine (catch66 w.heap.size (w.heap.size + 1) j x _ J 0 w3 x0 x1 x2 (by omega) x3).mono ?_
    rintro e u' w'' ⟨rfl, rfl, rfl⟩
    obtain ⟨hfc, hcl⟩ := HX4.out
    generalize (deadW w3 j).setCell ⟨w.heap.size + 1, 0, none⟩ (.int .i64 2) = w9 at *
    simp [Leaves, settle, results, Tryz.results31, go_sem, hcl]
    exact hfc
  · have q2 : gone L S V = false := by simpa using q1
    have HE : Hid (∀ w3, ToJ F w2 w3 j x p mb (runS L S V).1 (runS L S V).2 J' → w3.cell? ⟨w.heap.size, 0, none⟩ = some (.pointer (some ⟨j, 0, none⟩)) ∧ w3.cell? ⟨w.heap.size + 1, 0, none⟩ = some (.int .i64 0) ∧ w3.frozen? ⟨w.heap.size + 1, 0, none⟩ = false ∧
        Face L E J' F w j x p mb S V J (.returned (.int .i64 E)) (w3.setCell ⟨w.heap.size + 1, 0, none⟩ (.int .i64 E)) ∧ (w3.setCell ⟨w.heap.size + 1, 0, none⟩ (.int .i64 E)).cell? ⟨w.heap.size + 1, 0, none⟩ = some (.int .i64 E)) := fun w3 t => by
      have tt := t
      obtain ⟨F3, m3, hx3, g3, c3⟩ := t
      have e0 := (c3.block _ (block_lt k0) (hnb _ (.inl rfl))).trans k0
      have e1 := (c3.block _ (block_lt k1) (hnb _ (.inr rfl))).trans k1
      exact ⟨cell0 e0, cell0 e1, block_free e1, .inr ⟨q2, rfl, tt.box HB2.out (Nat.le_succ _) (by omega) (hnb _ (.inr rfl)) _⟩, cell0 (block_setCell e1)⟩
    clear h h2 hbd k0 k1 hw2 s1 hb2 hnb hsz2
    go_enter_defers Tryz.func31, Tryz.ntmps31
    go_wp2_with (first
      | (rw [HW2.out])
      | (go_at_call 59; (with_reducible refine KB.out.mono ?_); intro e w3 hd; obtain ⟨rfl, ht⟩ : e = .returned (.int .i64 E) ∧ ToJ F w2 w3 j x p mb (runS L S V).1 (runS L S V).2 J' := (hd.elim (fun z => by rw [q2] at z; cases z.1) (fun z => z.2)); obtain ⟨x0, x1, x2, x4⟩ := HE.out w3 ht; have HX4 := Lib.hid x4; clear hd ht x4))
    refine leaves_cons (f := 66) (args := #[.pointer (some ⟨w.heap.size, 0, none⟩), .pointer (some ⟨w.heap.size + 1, 0, none⟩)]) (by simp) (by simp [go_sem]) ?_
    refine (idle66 _ _ _).mono ?_
    rintro e u' w'' ⟨rfl, rfl, rfl⟩
    obtain ⟨hfc, hcl⟩ := HX4.out
    generalize w3.setCell ⟨w.heap.size + 1, 0, none⟩ (.int .i64 E) = w9 at *
    simp [Leaves, settle, results, Tryz.results31, go_sem, hcl]
    exact hfc
end Go.Proofs.YtjippoejaieneaaGreat
