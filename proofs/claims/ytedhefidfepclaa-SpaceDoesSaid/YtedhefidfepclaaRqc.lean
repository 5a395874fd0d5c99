/- The document's space: a program laid into a partition's memory. Conditions: numbers that a machine holds. -/
import Derived.Test.YtedhefidfepclaaRqb
namespace Go.Proofs.Ytedhefidfepclaa
open Go.RowKit Go.Maps
set_option linter.unusedVariables false
set_option linter.unusedSimpArgs false

/-- the last step: the new table stands in the row of tables -/
theorem LdI.done {w W : World} {G : Nat → Prop} {q : QAt} {B t : Bts} {ns : List Nat} {ps : List Pg} {i : Nat} {tv : Value} (h : IsQ w G q B ns ps) (hG : ¬ G q.g) (hG2 : ¬ G q.gt) (hi : i < ns.length) (hI : LdI w W q ps.length ps (bnd ns i) t B (tabP ns ps i) ns[i] tv) :
    IsQ (W.setCell ⟨q.gt, i, none⟩ tv) (nwG G w (W.setCell ⟨q.gt, i, none⟩ tv)) q (ldB ps.length ps (bnd ns i) t B ns[i]) ns (ldP ps (bnd ns i) t ns[i]) ∧ Ch (onQ q) w (W.setCell ⟨q.gt, i, none⟩ tv) := by
  obtain ⟨hm, hrow, hc⟩ := hI
  obtain ⟨cur, ht, hcur⟩ := h.tab
  obtain ⟨_, hmr0, _⟩ := h.mem.row
  obtain ⟨_, hmr, _⟩ := hm.row
  obtain ⟨ly, lm, lg, lt⟩ := h.lt
  have ne9 : ∀ a ca ta, w.heap[a]? = some (.cells ca ta (0, 0)) → ta ≠ 9 → a ≠ q.g := fun a ca ta ha hta e => by
    subst e; rw [hmr0] at ha; injection ha with ha; injection ha with _ h3 _; exact hta h3.symm
  have htW : W.heap[q.gt]? = some (.cells cur 50 (0, 0)) := (hc.block _ lt (ne9 _ _ _ ht (by decide))).trans ht
  have hblk : W.heap[q.y]? = _ := (hc.block _ ly (ne9 _ _ _ h.blk (by decide))).trans h.blk
  have nt : ∀ a ca ta, W.heap[a]? = some (.cells ca ta (0, 0)) → ta ≠ 50 → a ≠ q.gt := fun a ca ta ha hta e => by
    subst e; rw [htW] at ha; injection ha with ha; injection ha with _ h3 _; exact hta h3.symm
  have oth : ∀ a, a ≠ q.gt → (W.setCell ⟨q.gt, i, none⟩ tv).heap[a]? = W.heap[a]? := fun a ha => block_setCell_other (x := ⟨q.gt, i, none⟩) ha
  have hs : (W.setCell ⟨q.gt, i, none⟩ tv).heap.size = W.heap.size := by simp [World.setCell]
  have lo := own2_lt hrow
  have hsum : (ldP ps (bnd ns i) t ns[i]).length = ns.sum := by rw [ldP_len]; exact h.sum
  have hch : Ch (onQ q) w (W.setCell ⟨q.gt, i, none⟩ tv) := Ch.setCell (F := onQ q) ⟨hc.os, hc.tape, hc.output, hc.size, fun k h1 h2 => hc.block k h1 fun e => h2 (.inl e)⟩ (p := q.gt) (.inr rfl) _ _
  refine ⟨⟨(oth _ (nt _ _ _ hblk (by decide))).trans hblk, ?_, ⟨_, block_setCell htW, fun k hk => ?_⟩, hsum, h.few, h.each⟩, hch⟩
  · rw [ldP_len]
    exact hm.of_heap (oth _ (nt _ _ _ hm.blk (by decide))) (oth _ (nt _ _ _ hmr (by decide)))
  · obtain ⟨v, h1, h2⟩ := hcur k hk
    rw [Array.getElem?_setIfInBounds]
    by_cases e : i = k
    · subst e
      rw [if_pos rfl, if_pos (Array.getElem?_eq_some_iff.1 h1).1]
      refine ⟨tv, rfl, ?_⟩
      rw [tab_ld h.sum i hi]
      refine tabV_own (own2_below hrow fun j hj => oth j ?_) fun j hj => .inr ⟨(lo j hj).1, ?_⟩
      · obtain ⟨_, c2, h3⟩ := lo j hj
        exact nt _ _ _ h3 (by decide)
      · obtain ⟨_, c2, h3⟩ := lo j hj
        rw [hs]; exact block_lt h3
    · rw [if_neg e]
      refine ⟨v, h1, ?_⟩
      rw [tab_ld_other h.sum i k hi hk e]
      exact tabV_mono (h2.of_heap hch.size fun j hj hg => hch.block j hj fun e => by
        rcases e with e | e
        · exact hG (by rw [← e]; exact hg)
        · exact hG2 (by rw [← e]; exact hg)) fun j _ hg => .inl hg
theorem layB_nil (F : Nat) (B : Bts) (f a : Int) : layB F B f a [] = B := by
  unfold layB
  split
  · simp [lay]
  · rfl
theorem pc_nil {t : ByteArray} {k : Nat} (h : ¬ 256 * k < t.size) : pcP t.data.toList k = [] := by
  unfold pcP
  rw [List.drop_eq_nil_of_le (by rw [baList]; omega), List.take_nil]
theorem pc_len {t : ByteArray} {k : Nat} (h : 256 * k < t.size) : ¬ (pcP t.data.toList k).length = 0 := by
  unfold pcP
  rw [List.length_take, List.length_drop, baList]; omega
theorem pc_mid {t : ByteArray} {k : Nat} (h : 256 * k + 256 < t.size) : (t.extract (256 * k) (256 * k + 256)).data.toList = pcP t.data.toList k := by
  rw [ByteArray.data_extract, Array.toList_extract, List.extract_eq_take_drop]
  unfold pcP
  rw [show 256 * k + 256 - 256 * k = 256 by omega]
theorem pc_end {t : ByteArray} {k : Nat} (h : 256 * k < t.size) (h2 : t.size ≤ 256 * k + 256) : (t.extract (256 * k) t.size).data.toList = pcP t.data.toList k := by
  rw [ByteArray.data_extract, Array.toList_extract, List.extract_eq_take_drop]
  unfold pcP
  have hl : (t.data.toList.drop (256 * k)).length = t.size - 256 * k := by rw [List.length_drop, baList]
  rw [List.take_of_length_le (by omega), List.take_of_length_le (by omega)]
/-- inside a round of Load: x at block X -/
structure Ldx (w W : World) (q : QAt) (F : Nat) (B : Bts) (tv : Value) (k : Nat) (xs : List Value) (X : Nat) (f r : Int) : Prop where
  mem : IsR W q.m q.g q.cap F B
  row : W.ownsRow w.heap.size 56 2 tv k xs
  ch : Ch (onB q.g) w W
  x : W.heap[X]? = some (.cells #[.int .i64 f, .int .i64 r] 56 (0, 0))
  lt : ∀ j, tv.ownBlock = some j → j < X
  new : w.heap.size ≤ X
theorem Ldx.set {w W : World} {q : QAt} {F : Nat} {B : Bts} {tv : Value} {k : Nat} {xs : List Value} {X : Nat} {f r : Int} (h : Ldx w W q F B tv k xs X f r) (v : Int) : Ldx w (W.setCell ⟨X, 1, none⟩ (.int .i64 v)) q F B tv k xs X f v := by
  have hX := h.x
  obtain ⟨_, hmr, _⟩ := h.mem.row
  have n1 : q.m ≠ X := fun e => by have := h.mem.blk; rw [e, hX] at this; cases this
  have n2 : q.g ≠ X := fun e => by rw [e, hX] at hmr; cases hmr
  exact ⟨h.mem.of_heap (block_setCell_other (x := ⟨X, 1, none⟩) n1) (block_setCell_other (x := ⟨X, 1, none⟩) n2), own2_below h.row fun j hj => block_setCell_other (x := ⟨X, 1, none⟩) (by have := h.lt j hj; show j ≠ X; omega),
    ⟨h.ch.os, h.ch.tape, h.ch.output, by rw [show (W.setCell ⟨X, 1, none⟩ (.int .i64 v)).heap.size = W.heap.size by simp [World.setCell]]; exact h.ch.size, fun j h1 h2 => (block_setCell_other (x := ⟨X, 1, none⟩) (by have := h.new; show j ≠ X; omega)).trans (h.ch.block j h1 h2)⟩, block_setCell hX, h.lt, h.new⟩
theorem Ldx.lay {w W : World} {q : QAt} {F : Nat} {B : Bts} {tv : Value} {k : Nat} {xs : List Value} {X : Nat} {f r : Int} (h : Ldx w W q F B tv k xs X f r) (P : ByteArray) (hP : P.size < 140737488355328) :
    Calls Try.prog 39 #[.pointer (some ⟨q.m, 0, none⟩), .int .i64 f, .int .i64 0, .string P] W.drew fun e w8 => (∃ E, e = .returned (.int .i64 E)) ∧ Ldx w w8 q F (layB F B f 0 P.data.toList) tv k xs X f r := by
  have hd : Below W.heap.size W W.drew := ⟨rfl, rfl, rfl, Nat.le_refl _, fun _ _ => rfl⟩
  obtain ⟨_, hmr, _⟩ := h.mem.row
  have n2 : X ≠ q.g := fun e => by have := h.x; rw [e, hmr] at this; cases this
  refine (rlay_any q.m q.g q.cap F B W.drew (h.mem.below hd) f 0 P hP).mono fun e w8 ⟨x1, x2, x3⟩ => ⟨⟨_, x1⟩, x2, own2_below h.row fun j hj => ?_, (h.ch.then_below hd).trans (fun k hk => .inl hk) x3, (x3.block X (block_lt h.x) n2).trans h.x, h.lt, h.new⟩
  obtain ⟨_, cur, hcur⟩ := own2_lt h.row j hj
  exact x3.block j (block_lt hcur) fun e => by have e : j = q.g := e; rw [e, hmr] at hcur; cases hcur
/-- what is kept in a round of Load: the space's own cells, its tables -/
theorem IsQ.round {w W : World} {G : Nat → Prop} {q : QAt} {B : Bts} {ns : List Nat} {ps : List Pg} (h : IsQ w G q B ns ps) (hG : ¬ G q.g) {i : Nat} (hi : i < ns.length) {bb ob tc : Nat} (ct : w.cell? ⟨q.gt, i, none⟩ = some (.slice (some ⟨bb, ob, none⟩) ns[i] tc)) (ht : TabV G w (.slice (some ⟨bb, ob, none⟩) ns[i] tc) (tabP ns ps i)) (hc : Ch (onB q.g) w W) :
    W.cell? ⟨q.y, 0, none⟩ = some (.pointer (some ⟨q.m, 0, none⟩)) ∧ W.cell? ⟨q.y, 1, none⟩ = some (.slice (some ⟨q.gt, 0, none⟩) ns.length q.ct) ∧ W.cell? ⟨q.gt, i, none⟩ = some (.slice (some ⟨bb, ob, none⟩) ns[i] tc) ∧
    ∀ j, j < ns[i] → W.cell? ⟨bb, ob + j * 2, none⟩ = some (.int .i64 ((tabP ns ps i).getD j (0, 0)).1) ∧ W.cell? ⟨bb, ob + j * 2 + 1, none⟩ = some (.int .i64 ((tabP ns ps i).getD j (0, 0)).2) := by
  obtain ⟨_, hmr, _⟩ := h.mem.row
  obtain ⟨cur, htt, _⟩ := h.tab
  have ne9 : ∀ a ca ta, w.heap[a]? = some (.cells ca ta (0, 0)) → ta ≠ 9 → a ≠ q.g := fun a ca ta ha hta e => by
    subst e; rw [hmr] at ha; injection ha with ha; injection ha with _ h3 _; exact hta h3.symm
  have ky := hc.block _ h.lt.1 (ne9 _ _ _ h.blk (by decide))
  have kt := hc.block _ h.lt.2.2.2 (ne9 _ _ _ htt (by decide))
  have htW : TabV G W (.slice (some ⟨bb, ob, none⟩) ns[i] tc) (tabP ns ps i) := ht.of_heap hc.size fun j hj hg => hc.block j hj (fun e => hG (by have e : j = q.g := e; rw [← e]; exact hg))
  refine ⟨(World.cell?_of_block (a := ⟨q.y, 0, none⟩) ky).trans h.cells.1, (World.cell?_of_block (a := ⟨q.y, 1, none⟩) ky).trans h.cells.2, (World.cell?_of_block (a := ⟨q.gt, i, none⟩) kt).trans ct, fun j hj => ?_⟩
  obtain ⟨e1, e2⟩ := tab_cell htW
  exact e2 j (by rw [e1]; exact hj)
set_option maxRecDepth 20000 in
set_option maxHeartbeats 8000000 in
theorem qload_any (w : World) (G : Nat → Prop) (q : QAt) (B : Bts) (ns : List Nat) (ps : List Pg) (h : IsQ w G q B ns ps) (hG : ¬ G q.g) (hG2 : ¬ G q.gt) (k : Int) (t : ByteArray) (hts : t.size ≤ 140737488355328) :
    Calls Try.prog 12 #[.pointer (some ⟨q.y, 0, none⟩), .int .i64 k, .string t] w fun e w' => e = .returned (.int .i64 (sldE ns k t.size)) ∧ IsQ w' (nwG G w w') q (sldB ns ps B k t.data.toList) ns (sldP ns ps k t.data.toList) ∧ Ch (onQ q) w w' := by
  have kh := qhas_any w G q B ns ps h k
  unfold sldB sldP
  rw [baList]
  have HQ : Hid (IsQ w (nwG G w w) q B ns ps) := Lib.hid ⟨h.blk, h.mem, by
    obtain ⟨cur, ht, hc⟩ := h.tab
    exact ⟨cur, ht, fun k hk => by obtain ⟨v, h1, h2⟩ := hc k hk; exact ⟨v, h1, tabV_mono h2 fun j _ hg => .inl hg⟩⟩, h.sum, h.few, h.each⟩
  by_cases hk : isP ns k
  · have hk0 := hk
    unfold isP at hk
    rw [decide_eq_true hk] at kh
    obtain ⟨i, rfl⟩ : ∃ i : Nat, k = (i : Int) := ⟨k.toNat, by omega⟩
    have hi : i < ns.length := by omega
    have hni : ns.getD i 0 = ns[i] := by rw [List.getD_eq_getElem?_getD, List.getElem?_eq_getElem hi]; rfl
    have h16 := h.each ns[i] (List.getElem_mem hi)
    obtain ⟨ta, tc, ct, ht⟩ := h.at i hi
    obtain ⟨c0, c1⟩ := h.cells
    have i1 : (i : Int) < (ns.length : Int) := by omega
    have i0 : (0 : Int) ≤ (i : Int) := by omega
    by_cases big : 256 * ns[i] < t.size
    · have e1 : sldE ns i t.size = 122 := by unfold sldE; rw [if_pos hk0, Int.toNat_natCast, hni, if_pos big]
      rw [e1, if_neg (by decide), if_neg (by decide)]
      have q1 : IntKind.i64.wrap (256 * (ns[i] : Int)) = 256 * (ns[i] : Int) := IntWalk.i64_in _ (by omega)
      have q2 : wrap64 (256 * (ns[i] : Int)) = 256 * (ns[i] : Int) := by unfold wrap64; omega
      have b1 : 256 * (ns[i] : Int) < (t.size : Int) := by omega
      clear h e1 hk0 hk ht hni h16 big
      generalize ns[i] = ni at *
      generalize hnn : ns.length = nn at *
      clear hi hnn
      go_enter Try.func12, Try.ntmps12
      go_wp2_with (go_at_call 37; refine kh.mono ?_; rintro e w' ⟨rfl, rfl⟩)
      go_ret
      exact ⟨rfl, HQ.out, Ch.refl _ _⟩
    · have e1 : sldE ns i t.size = 0 := by unfold sldE; rw [if_pos hk0, Int.toNat_natCast, hni, if_neg big]
      rw [e1, if_pos rfl, if_pos rfl, Int.toNat_natCast, hni]
      have q1 : IntKind.i64.wrap (256 * (ns[i] : Int)) = 256 * (ns[i] : Int) := IntWalk.i64_in _ (by omega)
      have q2 : wrap64 (256 * (ns[i] : Int)) = 256 * (ns[i] : Int) := by unfold wrap64; omega
      have b1 : ¬ 256 * (ns[i] : Int) < (t.size : Int) := by omega
      obtain ⟨bb, ob, rfl⟩ : ∃ b o, ta = some ⟨b, o, none⟩ := by
        obtain ⟨q', cap', e, _, hc⟩ := ht
        injection e with e1 e2 _
        obtain ⟨b, o, hq, _⟩ := hc (fun e => by rw [e] at e2; simp at e2; omega)
        exact ⟨b, o, e1.trans hq⟩
      have RD : Hid (∀ W, Ch (onB q.g) w W → W.cell? ⟨q.y, 0, none⟩ = some (.pointer (some ⟨q.m, 0, none⟩)) ∧ W.cell? ⟨q.y, 1, none⟩ = some (.slice (some ⟨q.gt, 0, none⟩) ns.length q.ct) ∧ W.cell? ⟨q.gt, i, none⟩ = some (.slice (some ⟨bb, ob, none⟩) ns[i] tc) ∧
          ∀ j, j < ns[i] → W.cell? ⟨bb, ob + j * 2, none⟩ = some (.int .i64 ((tabP ns ps i).getD j (0, 0)).1) ∧ W.cell? ⟨bb, ob + j * 2 + 1, none⟩ = some (.int .i64 ((tabP ns ps i).getD j (0, 0)).2)) := Lib.hid fun W hW => h.round hG hi ct ht hW
      have H0 : Hid (LdI w (w.alloc (.cells #[] 56)) q ps.length ps (bnd ns i) t.data.toList B (tabP ns ps i) 0 (.slice (some ⟨w.heap.size, 0, none⟩) 0 0)) := Lib.hid (by
        have hb : Below w.heap.size w (w.alloc (.cells #[] 56)) := (Below.refl _ w).alloc (Nat.le_refl _) _
        exact ⟨h.mem.below hb, ⟨rfl, .inr ⟨w.heap.size, 0, #[], rfl, Nat.le_refl _, block_new _ _, Nat.le_refl _, Nat.zero_le _, rfl, rfl⟩⟩, Ch.of_below hb⟩)
      have HD : Hid (∀ W tv, LdI w W q ps.length ps (bnd ns i) t.data.toList B (tabP ns ps i) ns[i] tv → W.cell? ⟨q.gt, i, none⟩ = some (.slice (some ⟨bb, ob, none⟩) ns[i] tc) ∧ W.cell? ⟨q.y, 1, none⟩ = some (.slice (some ⟨q.gt, 0, none⟩) ns.length q.ct) ∧ W.frozen? ⟨q.gt, i, none⟩ = false ∧
          Hid (IsQ (W.setCell ⟨q.gt, i, none⟩ tv) (nwG G w (W.setCell ⟨q.gt, i, none⟩ tv)) q (ldB ps.length ps (bnd ns i) t.data.toList B ns[i]) ns (ldP ps (bnd ns i) t.data.toList ns[i]) ∧ Ch (onQ q) w (W.setCell ⟨q.gt, i, none⟩ tv))) := Lib.hid fun W tv hI => by
        obtain ⟨_, r2, r3, _⟩ := RD.out W hI.ch
        obtain ⟨_, hmr, _⟩ := h.mem.row
        obtain ⟨cur, htt, _⟩ := h.tab
        have hgt : q.gt ≠ q.g := fun e => by rw [e, hmr] at htt; cases htt
        exact ⟨r3, r2, block_free ((hI.ch.block _ h.lt.2.2.2 hgt).trans htt), Lib.hid (hI.done h hG hG2 hi)⟩
      -- one round
      have KR : Hid (∀ k, k < ns[i] → ∀ (W : World) (tv : Value), LdI w W q ps.length ps (bnd ns i) t.data.toList B (tabP ns ps i) k tv → ∀ f r : Int, f = ((tabP ns ps i).getD k (0, 0)).1 →
          Calls Try.prog 38 #[.pointer (some ⟨q.m, 0, none⟩), .int .i64 f] (W.alloc (.cells #[.int .i64 f, .int .i64 r] 56)).drew fun e w5 => (∃ E, e = .returned (.int .i64 E)) ∧ (w5.cell? ⟨q.y, 0, none⟩ = some (.pointer (some ⟨q.m, 0, none⟩)) ∧ w5.cell? ⟨W.heap.size, 0, none⟩ = some (.int .i64 f)) ∧ w5.cell? ⟨W.heap.size, 1, none⟩ = some (.int .i64 r) ∧ w5.frozen? ⟨W.heap.size, 1, none⟩ = false ∧
            Hid (Ldx w w5 q ps.length (clrB ps.length (ldB ps.length ps (bnd ns i) t.data.toList B k) f) tv k (flatP (tpL (tabP ns ps i) t.data.toList k)) W.heap.size f r)) := Lib.hid fun k hk W tv hI f r hf => by
        have hb : Below W.heap.size W (W.alloc (.cells #[.int .i64 f, .int .i64 r] 56)).drew := (by have hb := (Below.refl W.heap.size W).alloc (Nat.le_refl _) (.cells #[.int .i64 f, .int .i64 r] 56); exact ⟨hb.os, hb.tape, hb.output, hb.size, hb.block⟩)
        have hn : (W.alloc (.cells #[.int .i64 f, .int .i64 r] 56)).drew.heap[W.heap.size]? = some (.cells #[.int .i64 f, .int .i64 r] 56 (0, 0)) := block_new _ _
        have lo := own2_lt hI.row
        refine (rclear_any q.m q.g q.cap ps.length _ _ (hI.mem.below hb) f).mono fun e w5 ⟨x1, x2, x3⟩ => ?_
        obtain ⟨_, hmr5, _⟩ := hI.mem.row
        have hX : W.heap.size ≠ q.g := by have := hI.mem.lt.2; omega
        have h5 := (x3.block W.heap.size (by show W.heap.size < (W.alloc _).heap.size; rw [World.size_alloc]; omega) hX).trans hn
        have hch : Ch (onB q.g) w w5 := (hI.ch.then_below hb).trans (fun k hk => .inl hk) x3
        have tvne : ∀ j, tv.ownBlock = some j → j ≠ q.g := fun j hj e => by
          obtain ⟨_, cur, hcur⟩ := lo j hj
          rw [e, hmr5] at hcur; cases hcur
        refine ⟨⟨_, x1⟩, ⟨(RD.out w5 hch).1, by rw [cell_of_row _ _ _ _ _ _ h5]; rfl⟩, by rw [cell_of_row _ _ _ _ _ _ h5]; rfl, block_free h5, Lib.hid ⟨x2, own2_below hI.row fun j hj => ?_, hch, h5, fun j hj => by obtain ⟨_, cur, hcur⟩ := lo j hj; exact block_lt hcur, hI.ch.size⟩⟩
        obtain ⟨_, cur, hcur⟩ := lo j hj
        exact (x3.block j (Nat.lt_of_lt_of_le (block_lt hcur) hb.size) (tvne j hj)).trans (hb.block j (block_lt hcur))
      have KA : Hid (∀ (W : World) (k : Nat) (tv : Value) (f r : Int), IsR W q.m q.g q.cap ps.length (ldB ps.length ps (bnd ns i) t.data.toList B (k + 1)) → W.ownsRow w.heap.size 56 2 tv k (flatP (tpL (tabP ns ps i) t.data.toList k)) → Ch (onB q.g) w W → k ≤ 16 → f = ((tabP ns ps i).getD k (0, 0)).1 → (r = if (pcP t.data.toList k).length = 0 then 3 else 5) →
          ∃ q' c' W', (Builtin.append_ #[50, 50] 50 #[tv, .slice (some ⟨W.heap.size, 0, none⟩) 1 1]).run Try.prog (W.alloc (.cells #[.int .i64 f, .int .i64 r] 56)) = .ok (.slice q' (k + 1) c') W' ∧ Hid (LdI w W' q ps.length ps (bnd ns i) t.data.toList B (tabP ns ps i) (k + 1) (.slice q' (k + 1) c'))) := Lib.hid fun W k tv f r x1 x2 x3 x4 x5 x6 => by
        obtain ⟨q', c', W', y1, y2⟩ := LdI.app x1 x2 x3 x4 x5 x6
        exact ⟨q', c', W', y1, Lib.hid y2⟩
      have TP : Hid (∀ k, k < ns[i] → ((tabP ns ps i).getD k (0, 0)).1 = (ps.getD (bnd ns i + k) (0, 0)).1) := Lib.hid fun k hk => by rw [tabP_get h.sum i hi k hk]
      clear h e1 hk0 hk hni big ht hG hG2 c0
      generalize ns[i] = ni at *
      generalize ns.length = nn at *
      generalize bnd ns i = xx at *
      generalize tabP ns ps i = tp at *
      clear hi
      go_enter Try.func12, Try.ntmps12
      go_wp2_with (first
        | (go_at_call 37; refine kh.mono ?_; rintro e w' ⟨rfl, rfl⟩))
      go_loopw [8, 9] (fun tv iv wr => ∃ k : Nat, k ≤ ni ∧ iv = .int .i64 (k : Int) ∧ LdI w wr q ps.length ps xx t.data.toList B tp k tv) (fun _ iv _ => ni - (intOf iv).toNat)
      case atStart => exact ⟨0, Nat.zero_le _, rfl, H0.out⟩
      case round =>
        obtain ⟨k, hkn, rfl, hI⟩ := hrel
        by_cases a : k < ni
        · have aI : (k : Int) < (ni : Int) := by omega
          have aI0 : (0 : Int) ≤ (k : Int) := by omega
          obtain ⟨y0, y1, yt, yp⟩ := RD.out wr hI.ch
          obtain ⟨z0, z1⟩ := yp k a
          obtain ⟨f, hf⟩ : ∃ f, f = (tp.getD k (0, 0)).1 := ⟨_, rfl⟩
          obtain ⟨r, hr⟩ : ∃ r, r = (tp.getD k (0, 0)).2 := ⟨_, rfl⟩
          rw [← hf] at z0
          rw [← hr] at z1
          have K38 := KR.out k a wr _ hI f r hf
          have HM := Lib.hid hI
          have kI1 : k ≤ 16 := by omega
          have m1 : IntKind.i64.wrap (256 * (k : Int)) = 256 * (k : Int) := IntWalk.i64_in _ (by omega)
          have m2 : wrap64 (256 * (k : Int)) = 256 * (k : Int) := by unfold wrap64; omega
          have m3 : IntKind.i64.wrap (256 * (k : Int) + 256) = 256 * (k : Int) + 256 := IntWalk.i64_in _ (by omega)
          have m4 : wrap64 (256 * (k : Int) + 256) = 256 * (k : Int) + 256 := by unfold wrap64; omega
          have K38' := Lib.hid K38
          have hS0 : (wr.alloc (.cells #[.int .i64 f, .int .i64 r] 56)).drew.cell? ⟨q.y, 0, none⟩ = some (.pointer (some ⟨q.m, 0, none⟩)) ∧ (wr.alloc (.cells #[.int .i64 f, .int .i64 r] 56)).drew.cell? ⟨wr.heap.size, 0, none⟩ = some (.int .i64 f) := by
            have hb : Below wr.heap.size wr (wr.alloc (.cells #[.int .i64 f, .int .i64 r] 56)) := (Below.refl _ wr).alloc (Nat.le_refl _) _
            exact ⟨(RD.out _ (hI.ch.then_below hb)).1, by
              have := block_new wr (.cells #[.int .i64 f, .int .i64 r] 56)
              show (wr.alloc (.cells #[.int .i64 f, .int .i64 r] 56)).cell? _ = _
              rw [cell_of_row _ _ _ _ _ _ this]; rfl⟩
          by_cases hc : 256 * k < t.size
          · have cI : 256 * (k : Int) < (t.size : Int) := by omega
            have HFE := Lib.hid hf
            clear hI K38 yp hf hr
            go_wp2
            go_region_held3 (fun W => W.cell? ⟨q.y, 0, none⟩ = some (.pointer (some ⟨q.m, 0, none⟩)) ∧ W.cell? ⟨wr.heap.size, 0, none⟩ = some (.int .i64 f)) (with_reducible first | exact hS0 | exact hS1)
              (first | (go_at_call 38; with_reducible refine K38'.out.mono ?_; rintro e w5 ⟨⟨E, rfl⟩, hS1, v1, v2, HF⟩))
            clear hS0
            go_wp2
            have W7 := Lib.hid ((HF.out.set 3).set 5)
            have hS2 : (((w5.setCell ⟨wr.heap.size, 1, none⟩ (.int .i64 3)).setCell ⟨wr.heap.size, 1, none⟩ (.int .i64 5)).drew).cell? ⟨q.y, 0, none⟩ = some (.pointer (some ⟨q.m, 0, none⟩)) ∧ (((w5.setCell ⟨wr.heap.size, 1, none⟩ (.int .i64 3)).setCell ⟨wr.heap.size, 1, none⟩ (.int .i64 5)).drew).cell? ⟨wr.heap.size, 0, none⟩ = some (.int .i64 f) := by
              refine ⟨(RD.out _ W7.out.ch).1, ?_⟩
              have := W7.out.x
              show ((w5.setCell ⟨wr.heap.size, 1, none⟩ (.int .i64 3)).setCell ⟨wr.heap.size, 1, none⟩ (.int .i64 5)).cell? _ = _
              rw [cell_of_row _ _ _ _ _ _ this]; rfl
            have hfx : f = (ps.getD (xx + k) (0, 0)).1 := HFE.out.trans (TP.out k a)
            have K39 : Hid (∀ P : ByteArray, P.data.toList = pcP t.data.toList k → Calls Try.prog 39 #[.pointer (some ⟨q.m, 0, none⟩), .int .i64 f, .int .i64 0, .string P] ((w5.setCell ⟨wr.heap.size, 1, none⟩ (.int .i64 3)).setCell ⟨wr.heap.size, 1, none⟩ (.int .i64 5)).drew fun e w8 => (∃ E, e = .returned (.int .i64 E)) ∧ (w8.cell? ⟨q.y, 0, none⟩ = some (.pointer (some ⟨q.m, 0, none⟩)) ∧ w8.cell? ⟨wr.heap.size, 0, none⟩ = some (.int .i64 f)) ∧ w8.cell? ⟨wr.heap.size, 1, none⟩ = some (.int .i64 5) ∧
                Hid (∃ q' c' W', (Builtin.append_ #[50, 50] 50 #[u8, .slice (some ⟨w8.heap.size, 0, none⟩) 1 1]).run Try.prog (w8.alloc (.cells #[.int .i64 f, .int .i64 5] 56)) = .ok (.slice q' (k + 1) c') W' ∧ Hid (LdI w W' q ps.length ps xx t.data.toList B tp (k + 1) (.slice q' (k + 1) c')))) := Lib.hid fun P hP => by
              have hPs : P.size < 140737488355328 := by
                have e1 : P.data.toList.length = P.size := baList P
                have e2 : (pcP t.data.toList k).length ≤ 256 := by unfold pcP; rw [List.length_take]; omega
                rw [hP] at e1; omega
              refine (W7.out.lay P hPs).mono fun e w8 ⟨x1, x2⟩ => ⟨x1, ⟨(RD.out _ x2.ch).1, by rw [cell_of_row _ _ _ _ _ _ x2.x]; rfl⟩, by rw [cell_of_row _ _ _ _ _ _ x2.x]; rfl, Lib.hid ?_⟩
              refine KA.out w8 k u8 f 5 ?_ x2.row x2.ch kI1 HFE.out (if_neg (pc_len hc)).symm
              have := x2.mem
              rw [hP] at this
              rw [ldB, ← hfx]
              exact this
            clear hfx
            by_cases bg : 256 * k + 256 < t.size
            · have bI : 256 * (k : Int) + 256 < (t.size : Int) := by omega
              have mI5 : (0 : Int) ≤ 256 * (k : Int) + 256 := by omega
              have mI6 : 256 * (k : Int) + 256 ≤ (t.size : Int) := by omega
              have mI7 : 256 * (k : Int) ≤ 256 * (k : Int) + 256 := by omega
              have K39' := Lib.hid (K39.out (t.extract (256 * (k : Int)).toNat (256 * (k : Int) + 256).toNat) (by rw [show (256 * (k : Int)).toNat = 256 * k by omega, show (256 * (k : Int) + 256).toNat = 256 * k + 256 by omega]; exact pc_mid bg))
              clear K39
              have mI3 : (0 : Int) ≤ 256 * (k : Int) := by omega
              have mI4 : 256 * (k : Int) ≤ (t.size : Int) := by omega
              clear v1 v2
              go_region_held3 (fun W => W.cell? ⟨q.y, 0, none⟩ = some (.pointer (some ⟨q.m, 0, none⟩)) ∧ W.cell? ⟨wr.heap.size, 0, none⟩ = some (.int .i64 f)) (with_reducible first | exact hS2 | exact hS3)
                (first | (go_at_call 39; with_reducible refine K39'.out.mono ?_; rintro e w8 ⟨⟨E2, rfl⟩, hS3, v3, HF2⟩))
              clear hS2 K39'
              obtain ⟨q', c', W', hrun, HL⟩ := HF2.out
              have HRn := Lib.hid hrun
              go_wp2_with (at_builtin; refine wpList_append_run rfl (.tmp 75) (.tmp 77) 50 rfl _ _ _ _ rfl rfl HRn.out ?_)
              exact ⟨⟨k + 1, a, by simp, HL.out⟩, by simp [intOf]; omega⟩
            · have bI : (t.size : Int) ≤ 256 * (k : Int) + 256 := by omega
              have mI5 : (0 : Int) ≤ (t.size : Int) := by omega
              have mI6 : (t.size : Int) ≤ (t.size : Int) := Int.le_refl _
              have bI2 : ¬ (256 * (k : Int) + 256 < (t.size : Int)) := by omega
              have bI3 : min (t.size : Int) (256 * (k : Int) + 256) = (t.size : Int) := by omega
              have K39' := Lib.hid (K39.out (t.extract (256 * (k : Int)).toNat t.size) (by rw [show (256 * (k : Int)).toNat = 256 * k by omega]; exact pc_end hc (by omega)))
              clear K39
              have mI3 : (0 : Int) ≤ 256 * (k : Int) := by omega
              have mI4 : 256 * (k : Int) ≤ (t.size : Int) := by omega
              clear v1 v2
              go_region_held3 (fun W => W.cell? ⟨q.y, 0, none⟩ = some (.pointer (some ⟨q.m, 0, none⟩)) ∧ W.cell? ⟨wr.heap.size, 0, none⟩ = some (.int .i64 f)) (with_reducible first | exact hS2 | exact hS3)
                (first | (go_at_call 39; with_reducible refine K39'.out.mono ?_; rintro e w8 ⟨⟨E2, rfl⟩, hS3, v3, HF2⟩))
              clear hS2 K39'
              obtain ⟨q', c', W', hrun, HL⟩ := HF2.out
              have HRn := Lib.hid hrun
              go_wp2_with (at_builtin; refine wpList_append_run rfl (.tmp 75) (.tmp 77) 50 rfl _ _ _ _ rfl rfl HRn.out ?_)
              exact ⟨⟨k + 1, a, by simp, HL.out⟩, by simp [intOf]; omega⟩
          · have cI : ¬ 256 * (k : Int) < (t.size : Int) := by omega
            have hp := pc_nil hc
            have HFE := Lib.hid hf
            clear hI K38 yp hr hf
            go_wp2
            go_region_held3 (fun W => W.cell? ⟨q.y, 0, none⟩ = some (.pointer (some ⟨q.m, 0, none⟩)) ∧ W.cell? ⟨wr.heap.size, 0, none⟩ = some (.int .i64 f)) (with_reducible first | exact hS0 | exact hS1)
              (first | (go_at_call 38; with_reducible refine K38'.out.mono ?_; rintro e w5 ⟨⟨E, rfl⟩, hS1, v1, v2, HF⟩))
            clear hS0
            have hfx : f = (ps.getD (xx + k) (0, 0)).1 := HFE.out.trans (TP.out k a)
            have W6 := HF.out.set 3
            obtain ⟨q', c', W', hrun, HL⟩ := KA.out (w5.setCell ⟨wr.heap.size, 1, none⟩ (.int .i64 3)) k u8 f 3 (by rw [ldB, hp, ← hfx, layB_nil]; exact W6.mem) W6.row W6.ch kI1 HFE.out (if_pos (by rw [hp]; rfl)).symm
            rw [show (w5.setCell ⟨wr.heap.size, 1, none⟩ (.int .i64 3)).heap.size = w5.heap.size by simp [World.setCell]] at hrun
            have HRn := Lib.hid hrun
            clear hfx W6 hrun
            go_wp2_with (at_builtin; refine wpList_append_run rfl (.tmp 75) (.tmp 77) 50 rfl _ _ _ _ rfl rfl HRn.out ?_)
            exact ⟨⟨k + 1, a, by simp, HL.out⟩, by simp [intOf]; omega⟩
        · obtain rfl : k = ni := by omega
          obtain ⟨tq, tl, tcc, hu⟩ : ∃ tq tl tcc, u8 = .slice tq tl tcc := by
            rcases hI.row.2 with ⟨e1, _⟩ | ⟨g, c, cur, e1, _⟩
            · exact ⟨_, _, _, e1⟩
            · exact ⟨_, _, _, e1⟩
          subst hu
          obtain ⟨y1, y2, y3, HE⟩ := HD.out wr _ hI
          clear hI
          go_wp2
          go_ret
          exact ⟨rfl, HE.out⟩
  · have e1 : sldE ns k t.size = 120 := by unfold sldE; rw [if_neg hk]
    rw [e1, if_neg (by decide), if_neg (by decide)]
    unfold isP at hk
    rw [decide_eq_false hk] at kh
    clear h e1 hk
    go_enter Try.func12, Try.ntmps12
    go_wp2_with (go_at_call 37; refine kh.mono ?_; rintro e w' ⟨rfl, rfl⟩)
    go_ret
    exact ⟨rfl, HQ.out, Ch.refl _ _⟩
end Go.Proofs.Ytedhefidfepclaa
