/- A journal in memory; a sync. Conditions: ints are within 64 bits. -/
import Derived.Test.YtjippoejaieneaaGreatJco
import Derived.Test.YtjippoejaieneaaGreatJdf
namespace Go.Proofs.YtjippoejaieneaaGreat
open Go.RowKit Go.Maps
set_option maxRecDepth 20000
set_option linter.unusedVariables false

structure Jn.ok (J : Jn) (V : Dv) : Prop where
  a0 : 4 ≤ J.area
  a1 : J.area < V.cnt
  h0 : 2 ≤ J.head
  h1 : J.head ≤ 4611686018427387904
  n0 : 1 ≤ J.next
  n1 : J.next ≤ 4611686018427387904
  e0 : 2 ≤ J.en
  e1 : J.en ≤ (J.area : Int)
  last : ∀ i d, J.last i = some d → d.length = 116
structure IsJ (w : World) (F : Nat → Prop) (j x p mb : Nat) (S : St) (V : Dv) (J : Jn) : Prop where
  jx : JX w F j x p (.map (some mb)) S V J
  map : MapD w mb (V.cnt - J.area) J.last
  mF : ¬ F mb
  jm : j ≠ mb
  ok : J.ok V
  live : J.dead = false
def JF (F : Nat → Prop) (j mb : Nat) : Nat → Prop := fun k => F k ∨ k = j ∨ k = mb
def ToJ (F : Nat → Prop) (w w' : World) (j x p mb : Nat) (S : St) (V : Dv) (J : Jn) : Prop := ∃ F' mb', IsJ w' F' j x p mb' S V J ∧ Gr (JF F j mb) (JF F' j mb') w w' ∧ Ch (JF F j mb) w w'
def deadJ (J : Jn) : Jn := { J with dead := true }
def ToD (F : Nat → Prop) (w w' : World) (j x p mb : Nat) (S : St) (V : Dv) (J : Jn) : Prop := ∃ F', JX w' F' j x p (.map none) S V (deadJ J) ∧ Gr (JF F j mb) (JF F' j j) w w' ∧ Ch (JF F j mb) w w'
/-- what a face's call does: its steps, what it answers, what the journal is then -/
def Face (l : List Stp) (r : Int) (J' : Jn) (F : Nat → Prop) (w : World) (j x p mb : Nat) (S : St) (V : Dv) (J : Jn) (e : Ending) (w' : World) : Prop :=
  (gone l S V = true ∧ e = .returned (.int .i64 2) ∧ ToD F w w' j x p mb (runS l S V).1 (runS l S V).2 J) ∨
  (gone l S V = false ∧ e = .returned (.int .i64 r) ∧ ToJ F w w' j x p mb (runS l S V).1 (runS l S V).2 J')
theorem IsJ.c4 {w : World} {F : Nat → Prop} {j x p mb : Nat} {S : St} {V : Dv} {J : Jn} (h : IsJ w F j x p mb S V J) : V.cnt ≤ 4096 := by have := h.jx.good.fit; unfold Fit at this; omega
theorem IsJ.below {w w' : World} {F : Nat → Prop} {j x p mb : Nat} {S : St} {V : Dv} {J : Jn} (h : IsJ w F j x p mb S V J) (hb : Below w.heap.size w w') : IsJ w' F j x p mb S V J :=
  ⟨h.jx.below hb, h.map.of_heap (hb.block mb h.map.lt), h.mF, h.jm, h.ok, h.live⟩
/-- the journal when the extent alone has changed -/
theorem IsJ.tx {w w' : World} {F : Nat → Prop} {j x p mb : Nat} {S S' : St} {V V' : Dv} {J : Jn} (h : IsJ w F j x p mb S V J) (t : TX F w w' j x p (.map (some mb)) S' V' J) (hc : V'.cnt = V.cnt) : ToJ F w w' j x p mb S' V' J := by
  obtain ⟨F', hx, g, c⟩ := t
  have o := h.ok
  refine ⟨F', mb, ⟨hx, ?_, nF1 g h.mF h.map.lt, h.jm, ⟨o.a0, by rw [hc]; exact o.a1, o.h0, o.h1, o.n0, o.n1, o.e0, o.e1, o.last⟩, h.live⟩, ?_, ?_⟩
  · rw [hc]; exact h.map.of_heap (c.block mb h.map.lt h.mF)
  · intro k hk
    rcases hk with hk | hk | hk
    · exact (g k hk).imp .inl id
    · exact .inl (.inr (.inl hk))
    · exact .inl (.inr (.inr hk))
  · exact ⟨c.os, c.tape, c.output, c.size, fun k hk hn => c.block k hk (fun z => hn (.inl z))⟩
/-- the journal that has died -/
theorem dead_tx {w w' : World} {F : Nat → Prop} {j x p mb : Nat} {S' : St} {V' : Dv} {J : Jn} {mv : Value} (t : TX F w w' j x p mv S' V' J) : ToD F w (deadW w' j) j x p mb S' V' J := by
  obtain ⟨F', hx, g, c⟩ := t
  have ch : Ch (fun k => k = j) w' (deadW w' j) := ((Ch.refl (fun k => k = j) w').setCell (p := j) rfl _ _).setCell (p := j) rfl _ _
  refine ⟨F', ⟨?_, hx.ext.of_heap ch.size (fun k hk hF => ch.block k hk (fun e => hx.nj (by rw [← e]; exact hF))), hx.nj, hx.sok, hx.good, fun k hk => Nat.lt_of_lt_of_le (hx.bd k hk) ch.size⟩, ?_, ?_⟩
  · exact block_setCell (block_setCell hx.blk)
  · intro k hk
    rcases hk with hk | hk | hk
    · exact (g k hk).imp .inl (fun z => ⟨z.1, Nat.lt_of_lt_of_le z.2 ch.size⟩)
    · exact .inl (.inr (.inl hk))
    · exact .inl (.inr (.inl hk))
  · exact ⟨ch.os.trans c.os, ch.tape.trans c.tape, ch.output.trans c.output, Nat.le_trans c.size ch.size, fun k hk hn => (ch.block k (Nat.lt_of_lt_of_le hk c.size) (fun z => hn (.inr (.inl z)))).trans (c.block k hk (fun z => hn (.inl z)))⟩
theorem run_cnt {l : List Stp} {S : St} {V : Dv} (ho : S.ok) (h : Good S V) : (runS l S V).2.cnt = V.cnt := (run_good l ho h).2.2.2.2.1
theorem box_kept {w w2 w3 : World} {F : Nat → Prop} {b : Nat} {o : Obj} (hbd : ∀ k, F k → k < w.heap.size) (c : Ch F w2 w3) (hb : w.heap.size ≤ b) (k : w2.heap[b]? = some o) : w3.heap[b]? = some o :=
  (c.block b (block_lt k) (fun z => by have := hbd b z; omega)).trans k
theorem cell0 {w : World} {b : Nat} {v : Value} {t : TypeId} (h : w.heap[b]? = some (.cells #[v] t (0, 0))) : w.cell? ⟨b, 0, none⟩ = some v := by rw [cell_of_row _ _ _ _ _ _ h]; rfl
/-- the two variables of a call that defers lie beside the journal: setting the answer keeps the journal -/
theorem ToD.box {F : Nat → Prop} {w w2 w' : World} {j x p mb b : Nat} {S : St} {V : Dv} {J : Jn} (hb2 : Below w.heap.size w w2) (h : ToD F w2 w' j x p mb S V J) (hb : w.heap.size ≤ b) (hbl : b < w2.heap.size) (hn : ¬ JF F j mb b) (u : Value) : ToD F w (w'.setCell ⟨b, 0, none⟩ u) j x p mb S V J := by
  obtain ⟨F', hx, g, c⟩ := h
  have hn' : ¬ JF F' j j b := fun z => (g b z).elim hn (fun q => by omega)
  have n1 : ¬ F' b := fun z => hn' (.inl z)
  have n2 : b ≠ j := fun z => hn' (.inr (.inl z))
  have ch : Ch (fun k => k = b) w' (w'.setCell ⟨b, 0, none⟩ u) := (Ch.refl (fun k => k = b) w').setCell (p := b) rfl _ _
  refine ⟨F', ⟨(ch.block j hx.lt (fun e => n2 e.symm)).trans hx.blk, hx.ext.of_heap ch.size (fun k hk hF => ch.block k hk (fun e => n1 (by rw [← e]; exact hF))), hx.nj, hx.sok, hx.good, fun k hk => Nat.lt_of_lt_of_le (hx.bd k hk) ch.size⟩, fun k hk => (g k hk).imp id (fun z => ⟨Nat.le_trans hb2.size z.1, Nat.lt_of_lt_of_le z.2 ch.size⟩), ?_⟩
  exact ⟨(ch.os.trans c.os).trans hb2.os, (ch.tape.trans c.tape).trans hb2.tape, (ch.output.trans c.output).trans hb2.output, Nat.le_trans hb2.size (Nat.le_trans c.size ch.size), fun k hk hn => (ch.block k (Nat.lt_of_lt_of_le hk (Nat.le_trans hb2.size c.size)) (fun e => by omega)).trans ((c.block k (Nat.lt_of_lt_of_le hk hb2.size) hn).trans (hb2.block k hk))⟩
theorem ToJ.box {F : Nat → Prop} {w w2 w' : World} {j x p mb b : Nat} {S : St} {V : Dv} {J : Jn} (hb2 : Below w.heap.size w w2) (h : ToJ F w2 w' j x p mb S V J) (hb : w.heap.size ≤ b) (hbl : b < w2.heap.size) (hn : ¬ JF F j mb b) (u : Value) : ToJ F w (w'.setCell ⟨b, 0, none⟩ u) j x p mb S V J := by
  obtain ⟨F', mb', i, g, c⟩ := h
  have hn' : ¬ JF F' j mb' b := fun z => (g b z).elim hn (fun q => by omega)
  have n1 : ¬ F' b := fun z => hn' (.inl z)
  have n2 : b ≠ j := fun z => hn' (.inr (.inl z))
  have n3 : b ≠ mb' := fun z => hn' (.inr (.inr z))
  have hx := i.jx
  have ch : Ch (fun k => k = b) w' (w'.setCell ⟨b, 0, none⟩ u) := (Ch.refl (fun k => k = b) w').setCell (p := b) rfl _ _
  refine ⟨F', mb', ⟨⟨(ch.block j hx.lt (fun e => n2 e.symm)).trans hx.blk, hx.ext.of_heap ch.size (fun k hk hF => ch.block k hk (fun e => n1 (by rw [← e]; exact hF))), hx.nj, hx.sok, hx.good, fun k hk => Nat.lt_of_lt_of_le (hx.bd k hk) ch.size⟩, i.map.of_heap (ch.block mb' i.map.lt (fun e => n3 e.symm)), i.mF, i.jm, i.ok, i.live⟩, fun k hk => (g k hk).imp id (fun z => ⟨Nat.le_trans hb2.size z.1, Nat.lt_of_lt_of_le z.2 ch.size⟩), ?_⟩
  exact ⟨(ch.os.trans c.os).trans hb2.os, (ch.tape.trans c.tape).trans hb2.tape, (ch.output.trans c.output).trans hb2.output, Nat.le_trans hb2.size (Nat.le_trans c.size ch.size), fun k hk hn => (ch.block k (Nat.lt_of_lt_of_le hk (Nat.le_trans hb2.size c.size)) (fun e => by omega)).trans ((c.block k (Nat.lt_of_lt_of_le hk hb2.size) hn).trans (hb2.block k hk))⟩
set_option maxHeartbeats 2000000 in
theorem sync_any (F : Nat → Prop) (j x p mb : Nat) (S : St) (V : Dv) (J : Jn) (w : World) (h : IsJ w F j x p mb S V J) :
    Calls Tryz.prog 30 #[.pointer (some ⟨j, 0, none⟩)] w (Face [.bar] 0 J F w j x p mb S V J) := by
  obtain ⟨w2, hw2⟩ : ∃ w2, w2 = (w.alloc (.cells #[.pointer (some ⟨j, 0, none⟩)] 41)).alloc (.cells #[.int .i64 0] 29) := ⟨_, rfl⟩
  have hb2 : Below w.heap.size w w2 := by rw [hw2]; exact ((Below.refl _ w).alloc (Nat.le_refl _) _).alloc (by simp) _
  have s1 : (w.alloc (.cells #[.pointer (some ⟨j, 0, none⟩)] 41)).heap.size = w.heap.size + 1 := by simp
  have k0 : w2.heap[w.heap.size]? = some (.cells #[.pointer (some ⟨j, 0, none⟩)] 41 (0, 0)) := by rw [hw2]; exact block_alloc (block_new w _) _
  have k1 : w2.heap[w.heap.size + 1]? = some (.cells #[.int .i64 0] 29 (0, 0)) := by rw [hw2, ← s1]; exact block_new _ _
  have h2 := h.below hb2
  obtain ⟨_, _, _, _, _, _, c6⟩ := h2.jx.cells
  have c0 := cell0 k0
  have c1 := cell0 k1
  have hl := h.live
  have hbd := h.jx.bd
  have hjl := h.jx.lt
  have KB := Lib.hid (jbar_any F j x p _ S V J w2 h2.jx)
  have HW2 : Hid ((w.alloc (.cells #[.pointer (some ⟨j, 0, none⟩)] 41)).alloc (.cells #[.int .i64 0] 29) = w2) := hw2.symm
  have hml := h.map.lt
  have hnb : ¬ JF F j mb (w.heap.size + 1) := fun z => by
    rcases z with z | z | z
    · have := hbd _ z; omega
    · omega
    · omega
  have hsz2 : w2.heap.size = w.heap.size + 2 := by rw [hw2]; simp
  have HB2 := Lib.hid hb2
  by_cases q1 : gone [.bar] S V = true
  · have HE : Hid (∀ w3, TX F w2 w3 j x p (.map (some mb)) (runS [.bar] S V).1 (runS [.bar] S V).2 J → w3.cell? ⟨w.heap.size, 0, none⟩ = some (.pointer (some ⟨j, 0, none⟩)) ∧ w3.cell? ⟨w.heap.size + 1, 0, none⟩ = some (.int .i64 0) ∧ w3.frozen? ⟨w.heap.size + 1, 0, none⟩ = false ∧ w3.heap[j]? = some (.cells (jcells x J (.map (some mb))) 101 (0, 0)) ∧
        Face [.bar] 0 J F w j x p mb S V J (.returned (.int .i64 2)) ((deadW w3 j).setCell ⟨w.heap.size + 1, 0, none⟩ (.int .i64 2)) ∧ ((deadW w3 j).setCell ⟨w.heap.size + 1, 0, none⟩ (.int .i64 2)).cell? ⟨w.heap.size + 1, 0, none⟩ = some (.int .i64 2)) := fun w3 t => by
      obtain ⟨F3, hx3, g3, c3⟩ := t
      have e0 := box_kept hbd c3 (Nat.le_refl _) k0
      have e1 := box_kept hbd c3 (Nat.le_succ _) k1
      refine ⟨cell0 e0, cell0 e1, block_free e1, hx3.blk, .inl ⟨q1, rfl, (dead_tx ⟨F3, hx3, g3, c3⟩).box HB2.out (Nat.le_succ _) (by omega) hnb _⟩, ?_⟩
      have e2 : (deadW w3 j).heap[w.heap.size + 1]? = some (.cells #[.int .i64 0] 29 (0, 0)) := by
        unfold deadW
        rw [block_setCell_other (by show w.heap.size + 1 ≠ j; omega), block_setCell_other (by show w.heap.size + 1 ≠ j; omega)]; exact e1
      exact cell0 (block_setCell e2)
    clear h h2 hbd k0 k1 hw2 s1 hb2 hnb hsz2
    go_enter_defers Tryz.func30, Tryz.ntmps30
    go_wp2_with (first
      | (rw [HW2.out])
      | (go_at_call 65; (with_reducible refine KB.out.mono ?_); intro e w3 hd; obtain ⟨rfl, ht⟩ := hd.no q1; obtain ⟨x0, x1, x2, x3, x4⟩ := HE.out w3 ht; have HX4 := Lib.hid x4; clear hd ht x4))
    refine leaves_cons (f := 64) (args := #[.pointer (some ⟨w.heap.size, 0, none⟩), .pointer (some ⟨w.heap.size + 1, 0, none⟩)]) (by simp) (by simp [go_sem]) ?_
    refine (catch64 w.heap.size (w.heap.size + 1) j x _ J 0 w3 x0 x1 x2 (by omega) x3).mono ?_
    rintro e u' w'' ⟨rfl, rfl, rfl⟩
    obtain ⟨hfc, hcl⟩ := HX4.out
    generalize (deadW w3 j).setCell ⟨w.heap.size + 1, 0, none⟩ (.int .i64 2) = w9 at *
    simp [Leaves, settle, results, Tryz.results30, go_sem, hcl]
    exact hfc
  · have q2 : gone [.bar] S V = false := by simpa using q1
    have HE : Hid (∀ w3, TX F w2 w3 j x p (.map (some mb)) (runS [.bar] S V).1 (runS [.bar] S V).2 J → w3.cell? ⟨w.heap.size, 0, none⟩ = some (.pointer (some ⟨j, 0, none⟩)) ∧ w3.cell? ⟨w.heap.size + 1, 0, none⟩ = some (.int .i64 0) ∧ w3.frozen? ⟨w.heap.size + 1, 0, none⟩ = false ∧
        Face [.bar] 0 J F w j x p mb S V J (.returned (.int .i64 0)) (w3.setCell ⟨w.heap.size + 1, 0, none⟩ (.int .i64 0)) ∧ (w3.setCell ⟨w.heap.size + 1, 0, none⟩ (.int .i64 0)).cell? ⟨w.heap.size + 1, 0, none⟩ = some (.int .i64 0)) := fun w3 t => by
      have tt := t
      obtain ⟨F3, hx3, g3, c3⟩ := t
      have e0 := box_kept hbd c3 (Nat.le_refl _) k0
      have e1 := box_kept hbd c3 (Nat.le_succ _) k1
      exact ⟨cell0 e0, cell0 e1, block_free e1, .inr ⟨q2, rfl, (h2.tx tt (run_cnt h.jx.sok h.jx.good)).box HB2.out (Nat.le_succ _) (by omega) hnb _⟩, cell0 (block_setCell e1)⟩
    clear h h2 hbd k0 k1 hw2 s1 hb2 hnb hsz2
    go_enter_defers Tryz.func30, Tryz.ntmps30
    go_wp2_with (first
      | (rw [HW2.out])
      | (go_at_call 65; (with_reducible refine KB.out.mono ?_); intro e w3 hd; obtain ⟨rfl, ht⟩ := hd.yes q2; obtain ⟨x0, x1, x2, x4⟩ := HE.out w3 ht; have HX4 := Lib.hid x4; clear hd ht x4))
    refine leaves_cons (f := 64) (args := #[.pointer (some ⟨w.heap.size, 0, none⟩), .pointer (some ⟨w.heap.size + 1, 0, none⟩)]) (by simp) (by simp [go_sem]) ?_
    refine (idle64 _ _ _).mono ?_
    rintro e u' w'' ⟨rfl, rfl, rfl⟩
    obtain ⟨hfc, hcl⟩ := HX4.out
    generalize w3.setCell ⟨w.heap.size + 1, 0, none⟩ (.int .i64 0) = w9 at *
    simp [Leaves, settle, results, Tryz.results30, go_sem, hcl]
    exact hfc
end Go.Proofs.YtjippoejaieneaaGreat
