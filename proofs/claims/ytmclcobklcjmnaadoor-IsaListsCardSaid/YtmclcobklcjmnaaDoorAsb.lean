/- Assemble, the lines: what was made of a text's lines lies in memory, or the first mistake is told. Conditions: the text is as long as one may be. -/
import Derived.Test.YtmclcobklcjmnaaDoorLnr
import Derived.Test.YtmclcobklcjmnaaDoorLen
namespace Go.Proofs.YtmclcobklcjmnaaDoor
open Go.RowKit Go.Maps Go.Shelf
set_option linter.unusedVariables false
set_option linter.unusedSimpArgs false
attribute [local go_sem] Oper.semAt_some

def fstB (t : Bs) : Bs := (cutB 10 t).1
theorem cut_no10 : ∀ (t : Bs), (10 : UInt8) ∉ (cutB 10 t).1
  | [], h => by cases h
  | x :: l, h => by
    by_cases e : x = 10
    · subst e; rw [cut_end] at h; cases h
    · rw [cut_in e] at h
      rcases List.mem_cons.1 h with h | h
      · exact e h.symm
      · exact cut_no10 l h
theorem trim_head (t : Bs) : Lib.trimSuffix (headB t) [10] = (cutB 10 t).1 := by
  unfold headB Lib.trimSuffix
  split
  · have h : Lib.hasSuffix ((cutB 10 t).1 ++ [10]) [10] = true := List.isSuffixOf_iff_suffix.2 ⟨_, rfl⟩
    rw [if_pos h]
    simp
  · rw [if_neg]
    intro h
    obtain ⟨r, hr⟩ := List.isSuffixOf_iff_suffix.1 (show ([10] : Bs).isSuffixOf (cutB 10 t).1 = true from h)
    exact cut_no10 t (by rw [← hr]; simp)
theorem head_len (t : Bs) : (headB t).length ≤ t.length + 1 := by
  have := cut_fst_len 10 t
  unfold headB
  split
  · rw [List.length_append]; simp; exact this
  · omega
theorem Asm.turned {n0 p mb : Nat} {S : St} {W W' : World} {row : Option Nat} (h : Asm n0 p mb S W) (hg : W.grownBy W' row) (hr : ∀ k, row = some k → k ≠ p ∧ k ≠ mb ∧ ∀ o, W.heap[k]? = some o → (∀ c fz, o ≠ .cells c 5 fz) ∧ ∀ c fz, o ≠ .cells c 55 fz) : Asm n0 p mb S W' := by
  obtain ⟨h1, h2, ⟨vp, vw, hc, ho1, ho2⟩, hm⟩ := h
  have kept : ∀ {e : TypeId} {sz : Nat} {v : Value} {n : Nat} {xs : List Value}, W.ownsRow n0 e sz v n xs → (∀ k, row = some k → ∀ o, W.heap[k]? = some o → ∀ c fz, o ≠ .cells c e fz) → v.ownBlock = none ∨ v.ownBlock ≠ row := by
    intro e sz v n xs ho hne
    cases hrow : row with
    | none => cases v.ownBlock <;> simp
    | some k =>
      refine .inr fun e2 => ?_
      rcases ho.2 with ⟨rfl, _⟩ | ⟨g, cap, cur, rfl, _, hgb, _⟩
      · cases e2
      · have : g = k := by simpa [Value.ownBlock] using e2
        subst this
        exact hne g hrow _ hgb cur (0, 0) rfl
  have ne : ∀ k, (k = p ∨ k = mb) → some k ≠ row := fun k hk e => by
    have := hr k e.symm
    rcases hk with rfl | rfl
    · exact this.1 rfl
    · exact this.2.1 rfl
  exact ⟨h1, h2, ⟨vp, vw, (hg.block p (block_lt hc) (ne p (.inl rfl))).trans hc, ho1.kept hg (kept ho1 fun k e o ho => ((hr k e).2.2 o ho).1), ho2.kept hg (kept ho2 fun k e o ho => ((hr k e).2.2 o ho).2)⟩,
    hm.of_heap (hg.block mb hm.lt (ne mb (.inr rfl)))⟩
/-- the frame of Assemble in memory: results, the number of the line, the iterator's box -/
structure AB (w : World) (b : Nat) (k : Nat) (W : World) : Prop where
  r0 : Boxed W b 9 (.string ⟨#[]⟩)
  r1 : Boxed W (b + 1) 3 (.int .i64 0)
  r2 : Boxed W (b + 1 + 1) 22 (.int .i64 0)
  num : Boxed W (b + 1 + 1 + 1 + 1 + 1) 3 (.int .i64 (k : Int))
  box : ∃ u, W.heap[b + 1 + 1 + 1 + 1 + 1 + 1]? = some (.cells #[u] 9)
  size : b + 1 + 1 + 1 + 1 + 1 + 1 + 1 ≤ W.heap.size
  below : Below b w W
structure AI (w : World) (b : Nat) (S : St) (k : Nat) (W : World) : Prop where
  asm : Asm (b + 1 + 1 + 1) (b + 1 + 1 + 1 + 1) (b + 1 + 1 + 1) S W
  fr : AB w b k W
theorem AI.turned {w : World} {b : Nat} {S : St} {k : Nat} {W W' : World} {row : Option Nat} (hw : b ≤ w.heap.size) (h : AI w b S k W) (hg : W.grownBy W' row) (hr : ∀ r, row = some r → b + 1 + 1 + 1 + 1 + 1 + 1 + 1 ≤ r ∧ ∃ o : Obj, W.heap[r]? = some o ∧ o.isCells = false) : AI w b S k W' := by
  have ne : ∀ i, i < b + 1 + 1 + 1 + 1 + 1 + 1 + 1 → some i ≠ row := fun i hi e => by have := (hr i e.symm).1; omega
  obtain ⟨u, hu⟩ := h.fr.box
  refine ⟨h.asm.turned hg (fun r e => ?_), h.fr.r0.kept hg (ne _ (by omega)), h.fr.r1.kept hg (ne _ (by omega)), h.fr.r2.kept hg (ne _ (by omega)), h.fr.num.kept hg (ne _ (by omega)),
    ⟨u, (hg.block _ (block_lt hu) (ne _ (by omega))).trans hu⟩, Nat.le_trans h.fr.size hg.size, h.fr.below.grown hg (Nat.le_trans hw h.fr.below.size) (fun r e => by have := (hr r e).1; omega)⟩
  obtain ⟨h1, o, ho, hc⟩ := hr r e
  refine ⟨by omega, by omega, fun o' ho' => ?_⟩
  rw [ho] at ho'
  cases ho'
  exact ⟨fun c fz e => (by rw [e] at hc; cases hc), fun c fz e => (by rw [e] at hc; cases hc)⟩
theorem grown_set (W : World) (b : Nat) (v : Value) : W.grownBy (W.setCell ⟨b, 0, none⟩ v) (some b) := grownBy_setCell' W b v
/-- the iterator's box is written -/
theorem AI.boxed {w : World} {b : Nat} {S : St} {k : Nat} {W : World} (h : AI w b S k W) (v : Value) : AI w b S k (W.setCell ⟨b + 1 + 1 + 1 + 1 + 1 + 1, 0, none⟩ v) := by
  obtain ⟨u, hu⟩ := h.fr.box
  have hg := grown_set W (b + 1 + 1 + 1 + 1 + 1 + 1) v
  have ne : ∀ i, i < b + 1 + 1 + 1 + 1 + 1 + 1 → some i ≠ some (b + 1 + 1 + 1 + 1 + 1 + 1) := fun i hi e => by injection e with e; omega
  refine ⟨h.asm.turned hg (fun r e => ?_), h.fr.r0.kept hg (ne _ (by omega)), h.fr.r1.kept hg (ne _ (by omega)), h.fr.r2.kept hg (ne _ (by omega)), h.fr.num.kept hg (ne _ (by omega)),
    ⟨v, set1 hu v⟩, Nat.le_trans h.fr.size hg.size, h.fr.below.setCell (p := ⟨b + 1 + 1 + 1 + 1 + 1 + 1, 0, none⟩) (by show b ≤ b + 1 + 1 + 1 + 1 + 1 + 1; omega) v⟩
  injection e with e
  subst e
  refine ⟨by omega, by omega, fun o ho => ?_⟩
  rw [hu] at ho
  cases ho
  exact ⟨fun c fz e => (by cases e), fun c fz e => (by cases e)⟩
/-- the line's number goes on -/
theorem AI.next {w : World} {b : Nat} {S : St} {k : Nat} {W : World} (h : AI w b S k W) : AI w b S (k + 1) (W.setCell ⟨b + 1 + 1 + 1 + 1 + 1, 0, none⟩ (.int .i64 ((k : Int) + 1))) := by
  have hn := h.fr.num
  obtain ⟨u, hu⟩ := h.fr.box
  have hg := grown_set W (b + 1 + 1 + 1 + 1 + 1) (.int .i64 ((k : Int) + 1))
  have ne : ∀ i, i ≠ b + 1 + 1 + 1 + 1 + 1 → some i ≠ some (b + 1 + 1 + 1 + 1 + 1) := fun i hi e => by injection e with e; exact hi e
  refine ⟨h.asm.turned hg (fun r e => ?_), h.fr.r0.kept hg (ne _ (by omega)), h.fr.r1.kept hg (ne _ (by omega)), h.fr.r2.kept hg (ne _ (by omega)), ?_,
    ⟨u, (hg.block _ (block_lt hu) (ne _ (by omega))).trans hu⟩, Nat.le_trans h.fr.size hg.size, h.fr.below.setCell (p := ⟨b + 1 + 1 + 1 + 1 + 1, 0, none⟩) (by show b ≤ b + 1 + 1 + 1 + 1 + 1; omega) _⟩
  · injection e with e
    subst e
    refine ⟨by omega, by omega, fun o ho => ?_⟩
    rw [show W.heap[b + 1 + 1 + 1 + 1 + 1]? = _ from hn] at ho
    cases ho
    exact ⟨fun c fz e => (by cases e), fun c fz e => (by cases e)⟩
  · have := hn.set (.int .i64 ((k : Int) + 1))
    rwa [show ((k : Int) + 1) = ((k + 1 : Nat) : Int) from by omega] at this
theorem AB.oth {w : World} {b : Nat} {k : Nat} {W W' : World} (h : AB w b k W) (ho : Oth (b + 1 + 1 + 1) (b + 1 + 1 + 1 + 1) (b + 1 + 1 + 1) W W') : AB w b k W' := by
  obtain ⟨u, hu⟩ := h.box
  have old : ∀ {i : Nat} {t : TypeId} {v : Value}, Boxed W i t v → i ≠ b + 1 + 1 + 1 + 1 → i ≠ b + 1 + 1 + 1 → t ≠ 5 → t ≠ 55 → Boxed W' i t v := fun hb h1 h2 h3 h4 =>
    ho.old _ _ hb h1 h2 (fun c fz e => by cases e; exact h3 rfl) (fun c fz e => by cases e; exact h4 rfl)
  exact ⟨old h.r0 (by omega) (by omega) (by decide) (by decide), old h.r1 (by omega) (by omega) (by decide) (by decide), old h.r2 (by omega) (by omega) (by decide) (by decide), old h.num (by omega) (by omega) (by decide) (by decide),
    ⟨u, ho.old _ _ hu (by omega) (by omega) (fun c fz e => by cases e) (fun c fz e => by cases e)⟩, Nat.le_trans h.size ho.below.size, h.below.trans (ho.below.mono (by omega))⟩
theorem oth_keeps {b : Nat} {W W' : World} (ho : Oth (b + 1 + 1 + 1) (b + 1 + 1 + 1 + 1) (b + 1 + 1 + 1) W W') : KeepsFrom (b + 1 + 1 + 1 + 1 + 1 + 1 + 1) W W' :=
  ⟨ho.below.size, fun i o hi hk hc => ho.old i o hk (by omega) (by omega) (fun c fz e => by rw [e] at hc; cases hc) (fun c fz e => by rw [e] at hc; cases hc)⟩
theorem set_keeps (N i : Nat) (W : World) (v : Value) : KeepsFrom N W (W.setCell ⟨i, 0, none⟩ v) := (KeepsOthers.setCell _ _ _).from _
theorem add_code {S : St} {l : Bs} {num c : Int} (h : addP S l num = .inl c) : c = 92 ∨ c = 93 ∨ c = 94 := by
  unfold addP at h
  split at h
  · cases h
  · split at h
    · unfold nameP at h
      split at h
      · injection h with h; omega
      · split at h
        · injection h with h; omega
        · cases h
    · split at h
      · injection h with h; omega
      · split at h
        · injection h with h; omega
        · cases h
theorem adds_step {T : Bs} {pre : List Bs} {t : Bs} {S : St} (hah : Ahead T pre t) (ht : t ≠ []) (hS : addsP newSt 0 (pre.map (fun x => (cutB 10 x).1)) = .inr S) :
    (∀ c, addP S (cutB 10 t).1 ((pre.length : Int) + 1) = .inl c → addsP newSt 0 (linesB T) = .inl (c, (pre.length : Int) + 1)) ∧
    (∀ S2, addP S (cutB 10 t).1 ((pre.length : Int) + 1) = .inr S2 → addsP newSt 0 ((pre ++ [t]).map (fun x => (cutB 10 x).1)) = .inr S2) := by
  have e : ((0 + (pre.map (fun x => (cutB 10 x).1)).length : Nat) : Int) + 1 = (pre.length : Int) + 1 := by simp
  constructor
  · intro c h
    rw [hah.all, lines_cut t ht, adds_append, hS]
    dsimp only
    rw [adds_cons, e, h]
  · intro S2 h
    rw [List.map_append, adds_append, hS]
    dsimp only
    rw [List.map_cons, adds_cons, e, h]
    rfl
theorem leads_append : ∀ (X Y : List Way) (S : St), leadsP S (X ++ Y) = match leadsP S X with
    | .inl c => .inl c
    | .inr S' => leadsP S' Y
  | [], Y, S => rfl
  | x :: X, Y, S => by
    rw [List.cons_append, leads_cons, leads_cons]
    cases leadP S x with
    | inl c => rfl
    | inr S' => exact leads_append X Y S'
theorem leads_keep : ∀ (X : List Way) (S S' : St), S.good → (∀ x ∈ X, x.place + 4 ≤ S.prog.length) → leadsP S X = .inr S' → S'.good ∧ S'.ways = S.ways ∧ S'.prog.length = S.prog.length
  | [], S, S', g, hx, h => by injection h with h; subst h; exact ⟨g, rfl, rfl⟩
  | x :: X, S, S', g, hx, h => by
    rw [leads_cons] at h
    cases h1 : leadP S x with
    | inl c => rw [h1] at h; cases h
    | inr S1 =>
      rw [h1] at h
      obtain ⟨g1, e1, _, _, e2⟩ := lead_good g (hx x (by simp)) h1
      obtain ⟨g2, e3, e4⟩ := leads_keep X S1 S' g1 (fun y hy => by rw [e2]; exact hx y (by simp [hy])) h
      exact ⟨g2, e3.trans e1, e4.trans e2⟩
theorem waysV_at : ∀ (l : List Way) (j : Nat) (h : j < l.length), (waysV l)[j * 3]? = some (.int .i64 l[j].line) ∧ (waysV l)[j * 3 + 1]? = some (.int .i64 (l[j].place : Int)) ∧ (waysV l)[j * 3 + 2]? = some (.string (str l[j].label))
  | [], j, h => by simp at h
  | x :: l, 0, h => ⟨rfl, rfl, rfl⟩
  | x :: l, j + 1, h => by
    have := waysV_at l j (by simpa using h)
    have e : ∀ i, (waysV (x :: l))[(j + 1) * 3 + i]? = (waysV l)[j * 3 + i]? := fun i => by
      show (wayV x ++ waysV l)[(j + 1) * 3 + i]? = _
      rw [List.getElem?_append_right (by simp [wayV]; omega)]
      congr 1
      simp [wayV]; omega
    exact ⟨(e 0).trans this.1, (e 1).trans this.2.1, (e 2).trans this.2.2⟩
set_option maxRecDepth 100000 in
set_option maxHeartbeats 4000000 in
theorem asm_short (s : ByteArray) (hlen : s.size ≤ 32768) (w : World) (hL : LaidV w) : Calls Tryd.prog 10 #[.string s] w fun e w' => e = .returned (.tuple #[.string (str (asmR s.data.toList).1), .int .i64 (asmR s.data.toList).2.1, .int .i64 (asmR s.data.toList).2.2]) ∧ Below w.heap.size w w' := by
  have hmm : ∀ w : World, (Instr.makeMap 45 none).run Tryd.prog w = .ok (.map (some w.heap.size)) (w.alloc (.map #[] 0)) := fun w => rfl
  have hle : ¬ (32768 : Int) < (s.size : Int) := by omega
  refine (callsIn_wide (n := 9)).1 ?_
  refine callsIn_of_wp_marks Tryd.func10 rfl trivial ?_ rfl
  simp only [Tryd.ntmps10, List.size_toArray, List.length_cons, List.length_nil, Nat.reduceAdd, Nat.reduceSub, Array.replicate_succ, Array.replicate_zero, List.push_toArray, List.append_toArray, List.nil_append, List.cons_append]
  gi_wp2_with (refine ⟨trivial, ?_⟩; gi_at_call 22; refine (callsIn_wide.2 (itr_made _ _)).mono ?_; rintro e w' ⟨rfl, rfl⟩)
  obtain ⟨b, hb⟩ : ∃ b, b = w.heap.size := ⟨_, rfl⟩
  obtain ⟨W0, hW0⟩ : ∃ W0, W0 = (((((((w.alloc (.cells #[.string { data := #[] }] 9)).alloc (.cells #[.int .i64 0] 3)).alloc (.cells #[.int .i64 0] 22)).alloc (.map #[] 0)).alloc
    (.cells #[.slice none 0 0, .map (some (w.heap.size + 1 + 1 + 1)), .slice none 0 0] 48)).alloc (.cells #[.int .i64 0] 3)).alloc (.cells #[.string s] 9)) := ⟨_, rfl⟩
  rw [← hW0]
  have hsz : W0.heap.size = b + 1 + 1 + 1 + 1 + 1 + 1 + 1 := by rw [hW0, hb]; simp
  have hA0 : AI w b newSt 0 W0 := by
    have z0 := Boxed.new w 9 (.string { data := #[] })
    have z1 := Boxed.new (w.alloc (.cells #[.string { data := #[] }] 9)) 3 (.int .i64 0)
    have z2 := Boxed.new ((w.alloc (.cells #[.string { data := #[] }] 9)).alloc (.cells #[.int .i64 0] 3)) 22 (.int .i64 0)
    obtain ⟨v2, hv2⟩ : ∃ v2, v2 = ((w.alloc (.cells #[.string { data := #[] }] 9)).alloc (.cells #[.int .i64 0] 3)).alloc (.cells #[.int .i64 0] 22) := ⟨_, rfl⟩
    have zs : v2.heap.size = b + 1 + 1 + 1 := by rw [hv2, hb]; simp
    have z3 := MapS.made v2
    have z4 := World.alloc_heap_new (v2.alloc (.map #[] 0)) (.cells #[.slice none 0 0, .map (some (w.heap.size + 1 + 1 + 1)), .slice none 0 0] 48)
    obtain ⟨v4, hv4⟩ : ∃ v4, v4 = (v2.alloc (.map #[] 0)).alloc (.cells #[.slice none 0 0, .map (some (w.heap.size + 1 + 1 + 1)), .slice none 0 0] 48) := ⟨_, rfl⟩
    have z5 := Boxed.new v4 3 (.int .i64 0)
    have z6 := World.alloc_heap_new (v4.alloc (.cells #[.int .i64 0] 3)) (.cells #[.string s] 9)
    have zs4 : v4.heap.size = b + 1 + 1 + 1 + 1 + 1 := by rw [hv4]; simp [zs]
    have hW4 : W0 = (v4.alloc (.cells #[.int .i64 0] 3)).alloc (.cells #[.string s] 9) := by rw [hW0, hv4, hv2]
    rw [World.size_alloc] at z1
    rw [World.size_alloc, World.size_alloc] at z2
    rw [← hb] at z0 z1 z2
    rw [← hv2] at z2
    rw [zs] at z3
    rw [World.size_alloc, zs] at z4
    rw [← hv4, ← hb] at z4
    rw [zs4] at z5
    rw [World.size_alloc, zs4] at z6
    have y0 : Boxed v2 b 9 (.string ⟨#[]⟩) := by rw [hv2]; exact (z0.alloc _).alloc _
    have y1 : Boxed v2 (b + 1) 3 (.int .i64 0) := by rw [hv2]; exact z1.alloc _
    have q2 : ∀ {i t v}, Boxed v2 i t v → Boxed W0 i t v := fun h => by rw [hW4, hv4]; exact (((h.alloc _).alloc _).alloc _).alloc _
    have m4 : MapS v4 (b + 1 + 1 + 1) 0 (fun _ => none) := z3.of_heap (by rw [hv4]; exact Below.heap_alloc _ _ _ (by simp [zs]))
    have m0 : MapS W0 (b + 1 + 1 + 1) 0 (fun _ => none) := m4.of_heap (by rw [hW4, Below.heap_alloc _ _ _ (by simp [zs4]), Below.heap_alloc _ _ _ (by simp [zs4])])
    have p0 : W0.heap[b + 1 + 1 + 1 + 1]? = some (.cells #[.slice none 0 0, .map (some (b + 1 + 1 + 1)), .slice none 0 0] 48) := by rw [hW4, Below.heap_alloc _ _ _ (by simp [zs4]), Below.heap_alloc _ _ _ (by simp [zs4])]; exact z4
    refine ⟨⟨by omega, Nat.le_refl _, ⟨_, _, p0, ⟨rfl, .inl ⟨rfl, rfl⟩⟩, ⟨rfl, .inl ⟨rfl, rfl⟩⟩⟩, m0⟩, q2 y0, q2 y1, q2 z2, by rw [hW4]; exact z5.alloc _, ⟨_, by rw [hW4]; exact z6⟩, by omega, ?_⟩
    rw [hW0, hb]
    refine ((((((((Below.refl _ w).alloc ?_ _).alloc ?_ _).alloc ?_ _).alloc ?_ _).alloc ?_ _).alloc ?_ _).alloc ?_ _) <;> simp <;> omega
  have hbx : W0.heap[b + 1 + 1 + 1 + 1 + 1 + 1]? = some (.cells #[.string (str s.data.toList)] 9) := by
    rw [str_toList, hW0, hb]
    have := World.alloc_heap_new ((((((w.alloc (.cells #[.string { data := #[] }] 9)).alloc (.cells #[.int .i64 0] 3)).alloc (.cells #[.int .i64 0] 22)).alloc (.map #[] 0)).alloc
      (.cells #[.slice none 0 0, .map (some (w.heap.size + 1 + 1 + 1)), .slice none 0 0] 48)).alloc (.cells #[.int .i64 0] 3)) (.cells #[.string s] 9)
    simpa using this
  rw [← hb]
  obtain ⟨T, hT⟩ : ∃ T, T = s.data.toList := ⟨_, rfl⟩
  have hTl : T.length = s.size := by rw [hT]; exact Array.length_toList
  rw [← hT] at hbx
  have HW := Lib.hid hW0
  have Hb := Lib.hid hb
  have HT := Lib.hid hT
  clear hW0 hb hT
  refine range_lines (b := b + 1 + 1 + 1 + 1 + 1 + 1) T (by omega) rfl hbx
    (fun pre W => ∃ S, addsP newSt 0 (pre.map (fun x => (cutB 10 x).1)) = .inr S ∧ AI w b S pre.length W)
    (fun c pre W => c = .ret ∧ (∃ k e, addsP newSt 0 (linesB T) = .inl (e, k) ∧ Boxed W b 9 (.string ⟨#[]⟩) ∧ Boxed W (b + 1) 3 (.int .i64 k) ∧ Boxed W (b + 1 + 1) 22 (.int .i64 e)) ∧ Below b w W)
    ?hI ?hIx ?hIb ⟨newSt, rfl, hA0⟩
    (fun t => { tmps := #[Value.string s, undef, Value.pointer (some { block := b, off := 0 }), Value.pointer (some { block := b + 1, off := 0 }), Value.pointer (some { block := b + 1 + 1, off := 0 }),
        Value.pointer (some { block := b + 1 + 1 + 1 + 1, off := 0 }), Value.pointer (some { block := b + 1 + 1 + 1 + 1 + 1, off := 0 }), .string (str (headB t)), undef, undef, undef, undef,
        Value.string s, Value.int IntKind.i64 s.size, Value.bool false, Value.map (some (b + 1 + 1 + 1)),
        Value.agg #[Value.slice none 0 0, Value.map (some (b + 1 + 1 + 1)), Value.slice none 0 0], Value.string s,
        Value.func (Fn.func 43) #[] #[Value.pointer (some { block := b + 1 + 1 + 1 + 1 + 1 + 1, off := 0 })], .string (str (headB t)),
        undef, undef, undef, undef, undef, undef, undef, undef, undef, undef, undef, undef, undef, undef, undef, undef, undef, undef, undef, undef, undef, undef, undef, undef, undef, undef, undef, undef], defers := [] })
    ?assign ?body ?done ?stop
  case hI =>
    intro pre W W' row h hg hr
    obtain ⟨S, hS, hA⟩ := h
    exact ⟨S, hS, hA.turned (by rw [Hb.out]; exact Nat.le_refl _) hg (fun r e => by have := hr r e; rw [hsz] at this; exact this)⟩
  case hIx =>
    intro c pre W W' row h hg hr
    obtain ⟨h1, ⟨k, e, ha, b0, b1, b2⟩, hbl⟩ := h
    rw [hsz] at hr
    have ne : ∀ i, i < b + 1 + 1 + 1 + 1 + 1 + 1 + 1 → some i ≠ row := fun i hi e => by have := (hr i e.symm).1; omega
    exact ⟨h1, ⟨k, e, ha, b0.kept hg (ne _ (by omega)), b1.kept hg (ne _ (by omega)), b2.kept hg (ne _ (by omega))⟩, hbl.grown hg (Nat.le_trans (by rw [Hb.out]; exact Nat.le_refl _) hbl.size) (fun r e => by have := (hr r e).1; omega)⟩
  case hIb =>
    rintro pre W u v hu ⟨S, hS, hA⟩
    exact ⟨S, hS, hA.boxed v⟩
  case assign =>
    intro l t W K hK
    gi_wp2
    exact hK
  case body =>
    rintro l pre t W ht hah ⟨S, hS, hA⟩
    dsimp only
    have hpl : pre.length ≤ 32768 := by
      have := lines_count T
      rw [hah.all] at this
      simp at this
      omega
    obtain ⟨gS, cS⟩ := adds_good new_good hS
    have cS' : S.count ≤ pre.length := by rw [List.length_map] at cS; simpa [newSt] using cS
    obtain ⟨k, hk⟩ : ∃ k, k = pre.length := ⟨_, rfl⟩
    rw [← hk] at hA hpl cS'
    have c6 := hA.fr.num.cell
    have f6 := hA.fr.num.frozen
    obtain ⟨W1, hW1⟩ : ∃ W1, W1 = W.setCell ⟨b + 1 + 1 + 1 + 1 + 1, 0, none⟩ (.int .i64 ((k : Int) + 1)) := ⟨_, rfl⟩
    have hA1 : AI w b S (k + 1) W1 := by rw [hW1]; exact hA.next
    have hL1 : LaidV W1 := hL.below (by rw [Hb.out] at hA1; exact hA1.fr.below)
    have q1 : IntKind.i64.wrap ((k : Int) + 1) = (k : Int) + 1 := IntWalk.i64_in _ (by omega)
    have KT := Lib.hid (Tryd.strings_TrimSuffix (str (headB t)) ⟨#[10]⟩)
    have htr : Hid ((⟨(Lib.trimSuffix (str (headB t)).data.toList (⟨#[10]⟩ : ByteArray).data.toList).toArray⟩ : ByteArray) = str (cutB 10 t).1) := Lib.hid (by rw [str_list]; show str (Lib.trimSuffix (headB t) [10]) = _; rw [trim_head])
    have hfl : (str (cutB 10 t).1).size ≤ 100000 := by rw [str_size]; have := cut_fst_len 10 t; have := hah.len; omega
    have hhl : (str (headB t)).size ≤ 9223372036854775807 := by rw [str_size]; have := head_len t; have := hah.len; omega
    have KA : Hid (Calls Tryd.prog 23 #[.pointer (some ⟨b + 1 + 1 + 1 + 1, 0, none⟩), .string (str (cutB 10 t).1), .int .i64 ((k : Int) + 1)] W1.drew (AsmPost (b + 1 + 1 + 1) (b + 1 + 1 + 1 + 1) (b + 1 + 1 + 1) (addP S (cutB 10 t).1 ((k : Int) + 1)) W1.drew)) := Lib.hid (by
      have := add_any (b + 1 + 1 + 1) (b + 1 + 1 + 1 + 1) (b + 1 + 1 + 1) S (str (cutB 10 t).1) hfl ((k : Int) + 1) W1.drew (hL1.below (Below.refl _ W1).drew) (hA1.asm.turned (row := none) ⟨rfl, rfl, rfl, Nat.le_refl _, fun _ _ _ => rfl⟩ (fun k e => by cases e)) gS.ok (by omega) (by have := gS.many; have := gS.ok.2; omega)
      rwa [str_list] at this)
    have c7 : W1.cell? ⟨b + 1 + 1 + 1 + 1 + 1, 0, none⟩ = some (.int .i64 ((k : Int) + 1)) := by have := hA1.fr.num.cell; rwa [show (((k + 1 : Nat) : Int)) = (k : Int) + 1 from by omega] at this
    have hmx : Tryd.prog.follows .mixedOrders = true := by kernel_rfl
    have HH := Lib.hid (And.intro ht (And.intro hah (And.intro hS (And.intro hA (And.intro gS (And.intro hA1 (And.intro hL1 hk)))))))
    have HBd : Hid (AB w b (k + 1) W1.drew) := Lib.hid (hA1.turned (by rw [Hb.out]; exact Nat.le_refl _) (W' := W1.drew) (row := none) ⟨rfl, rfl, rfl, Nat.le_refl _, fun _ _ _ => rfl⟩ (fun r e => by cases e)).fr
    clear hah hS hA gS hA1 hL1 hk cS cS' ht
    cases hR : addP S (cutB 10 t).1 ((k : Int) + 1) with
    | inl c =>
      rw [hR] at KA
      unfold AsmPost at KA
      dsimp only at KA
      have HR := Lib.hid hR
      clear hR
      gi_wp2
      rw [← hW1]
      have HW1 := Lib.hid hW1
      clear hW1 c6 f6
      gi_region_with_o (first
        | (refine ⟨trivial, ?_⟩; gi_at_call 24; refine CallsIn.inRound l (callsIn_wide.2 ((KT.out _ hhl).mono ?_)); rintro e w2 ⟨rfl, rfl⟩; rw [htr.out])
        | (refine ⟨trivial, ?_⟩; gi_at_call 23; refine CallsIn.inRound l (callsIn_wide.2 (KA.out.mono ?_)); rintro e w3 ⟨rfl, ho⟩; have HO := Lib.hid ho; clear ho))
      all_goals
        have hB3 := HBd.out.oth HO.out
        have d0 : w3.drew.cell? ⟨b, 0, none⟩ = some (.string ⟨#[]⟩) := hB3.r0.cell
        have d1 : w3.drew.cell? ⟨b + 1, 0, none⟩ = some (.int .i64 0) := hB3.r1.cell
        have d2 : w3.drew.cell? ⟨b + 1 + 1, 0, none⟩ = some (.int .i64 0) := hB3.r2.cell
        have d3 : w3.drew.cell? ⟨b + 1 + 1 + 1 + 1 + 1, 0, none⟩ = some (.int .i64 ((k : Int) + 1)) := hB3.num.cell
        have g0 : w3.drew.frozen? ⟨b, 0, none⟩ = false := hB3.r0.frozen
        have g1 : w3.drew.frozen? ⟨b + 1, 0, none⟩ = false := hB3.r1.frozen
        have g2 : w3.drew.frozen? ⟨b + 1 + 1, 0, none⟩ = false := hB3.r2.frozen
        have e0 := hB3.r0.cell
        have e1 := hB3.r1.cell
        have e2 := hB3.r2.cell
        have e3 : w3.cell? ⟨b + 1 + 1 + 1 + 1 + 1, 0, none⟩ = some (.int .i64 ((k : Int) + 1)) := hB3.num.cell
        have i0 := hB3.r0.frozen
        have i1 := hB3.r1.frozen
        have i2 := hB3.r2.frozen
        have HB3 := Lib.hid hB3
        clear hB3
        have HP : Hid (∀ W4, W4 = (((w3.setCell ⟨b, 0, none⟩ (.string ⟨#[]⟩)).setCell ⟨b + 1, 0, none⟩ (.int .i64 ((k : Int) + 1))).setCell ⟨b + 1 + 1, 0, none⟩ (.int .i64 c)).drew →
            KeepsFrom (b + 1 + 1 + 1 + 1 + 1 + 1 + 1) W W4 ∧ (∃ k e, addsP newSt 0 (linesB T) = .inl (e, k) ∧ Boxed W4 b 9 (.string ⟨#[]⟩) ∧ Boxed W4 (b + 1) 3 (.int .i64 k) ∧ Boxed W4 (b + 1 + 1) 22 (.int .i64 e)) ∧ Below b w W4) := Lib.hid fun W4 h4 => by
          obtain ⟨ht, hah, hS, hA, gS, hA1, hL1, hk⟩ := HH.out
          have hst := (adds_step hah ht hS).1 c (by rw [← hk]; exact HR.out)
          rw [← hk] at hst
          have kd : ∀ X : World, KeepsFrom (b + 1 + 1 + 1 + 1 + 1 + 1 + 1) X X.drew := fun X => ⟨Nat.le_refl _, fun _ _ _ h _ => h⟩
          refine ⟨?_, ⟨_, _, hst, ?_, ?_, ?_⟩, ?_⟩
          · rw [h4]
            refine KeepsFrom.trans (KeepsFrom.trans (KeepsFrom.trans (KeepsFrom.trans ?_ (set_keeps _ _ _ _)) (set_keeps _ _ _ _)) (set_keeps _ _ _ _)) (kd _)
            have := set_keeps (b + 1 + 1 + 1 + 1 + 1 + 1 + 1) (b + 1 + 1 + 1 + 1 + 1) W (.int .i64 ((k : Int) + 1))
            rw [← HW1.out] at this
            exact (this.trans (kd _)).trans (oth_keeps HO.out)
          · rw [h4]
            exact ((HB3.out.r0.set _).other (by omega) _).other (by omega) _
          · rw [h4]
            exact ((HB3.out.r1.other (by omega) _).set _).other (by omega) _
          · rw [h4]
            exact ((HB3.out.r2.other (by omega) _).other (by omega) _).set _
          · rw [h4]
            have hb1 := ((HB3.out.below.setCell (p := ⟨b, 0, none⟩) (Nat.le_refl _) (.string ⟨#[]⟩)).setCell (p := ⟨b + 1, 0, none⟩) (by show b ≤ b + 1; omega) (.int .i64 ((k : Int) + 1))).setCell (p := ⟨b + 1 + 1, 0, none⟩) (by show b ≤ b + 1 + 1; omega) (.int .i64 c)
            exact hb1.drew
        have hcode := add_code HR.out
        rcases hcode with rfl | rfl | rfl
      all_goals
        gi_wp2
        gi_region_with_o (fail)
      all_goals
        gi_wp2
      all_goals
        exact ⟨by rw [hsz]; exact (HP.out _ rfl).1, rfl, (HP.out _ rfl).2⟩
    | inr S2 =>
      rw [hR] at KA
      unfold AsmPost at KA
      dsimp only at KA
      have HR := Lib.hid hR
      clear hR
      gi_wp2
      rw [← hW1]
      have HW1 := Lib.hid hW1
      clear hW1 c6 f6
      gi_region_with_o (first
        | (refine ⟨trivial, ?_⟩; gi_at_call 24; refine CallsIn.inRound l (callsIn_wide.2 ((KT.out _ hhl).mono ?_)); rintro e w2 ⟨rfl, rfl⟩; rw [htr.out])
        | (refine ⟨trivial, ?_⟩; gi_at_call 23; refine CallsIn.inRound l (callsIn_wide.2 (KA.out.mono ?_)); rintro e w3 ⟨⟨rfl, ha⟩, ho⟩; have HO := Lib.hid (And.intro ha ho); clear ha ho))
      all_goals
        gi_wp2
      all_goals
        obtain ⟨ht, hah, hS, hA, gS, hA1, hL1, hk⟩ := HH.out
        have hst := (adds_step hah ht hS).2 S2 (by rw [← hk]; exact HR.out)
        have h3 := HBd.out.oth HO.out.2
        have kd : ∀ X : World, KeepsFrom (b + 1 + 1 + 1 + 1 + 1 + 1 + 1) X X.drew := fun X => ⟨Nat.le_refl _, fun _ _ _ h _ => h⟩
        have hkp : KeepsFrom (b + 1 + 1 + 1 + 1 + 1 + 1 + 1) W w3 := by
          have := set_keeps (b + 1 + 1 + 1 + 1 + 1 + 1 + 1) (b + 1 + 1 + 1 + 1 + 1) W (.int .i64 ((k : Int) + 1))
          rw [← HW1.out] at this
          exact (this.trans (kd _)).trans (oth_keeps HO.out.2)
        obtain ⟨u, hu⟩ := hA1.fr.box
        have hu3 : w3.heap[b + 1 + 1 + 1 + 1 + 1 + 1]? = some (.cells #[u] 9) := HO.out.2.old _ _ hu (by omega) (by omega) (fun c fz e => by cases e) (fun c fz e => by cases e)
        have hu1 : W.heap[b + 1 + 1 + 1 + 1 + 1 + 1]? = some (.cells #[u] 9) := by
          rw [HW1.out] at hu
          rwa [Below.heap_setCell _ _ _ _ (by show b + 1 + 1 + 1 + 1 + 1 + 1 ≠ b + 1 + 1 + 1 + 1 + 1; omega)] at hu
        refine ⟨by rw [hsz]; exact hkp, ⟨hkp.size, hu3.trans hu1.symm⟩, S2, hst, HO.out.1, ?_⟩
        rw [List.length_append, ← hk]
        exact h3
  case done =>
    rintro D pre W hD hall ⟨S, hS, hA⟩ hK
    rw [hall] at hS
    obtain ⟨gS, -⟩ := adds_good new_good hS
    obtain ⟨vp, vw, hc, ho1, ho2⟩ := hA.asm.cells
    obtain ⟨ao, cap, rfl⟩ := own_slice ho2
    have c4 : W.cell? ⟨b + 1 + 1 + 1 + 1, 2, none⟩ = some (.slice ao S.ways.length cap) := cell_of_row W _ 2 _ _ _ hc
    have HD := Lib.hid (And.intro hD (And.intro hK (And.intro hS (And.intro hA (And.intro gS (And.intro hc (And.intro ho1 ho2)))))))
    clear hD hK hS hA gS hc ho1 ho2 hall
    gi_wp2
    gi_loopw [33] (fun v wr => ∃ (j : Nat) (S' : St), v = .int .i64 (j : Int) ∧ j ≤ S.ways.length ∧ leadsP S (S.ways.take j) = .inr S' ∧ AI w b S' pre.length wr ∧ Oth5 (b + 1 + 1 + 1) W wr) (fun v _ => S.ways.length - (intOf v).toNat)
    case atStart =>
      have hA := HD.out.2.2.2.1
      exact ⟨0, S, rfl, Nat.zero_le _, rfl, hA, ⟨Below.refl _ _, fun _ _ h _ => h⟩⟩
    case round =>
      obtain ⟨j, S', rfl, hj, hl, hA', hO'⟩ := hrel
      by_cases hjn : j < S.ways.length
      · have hjI : (j : Int) < (S.ways.length : Int) := by omega
        have hx : S.ways[j] ∈ S.ways := List.getElem_mem hjn
        obtain ⟨hD, hK, hS, hA, gS, hc, ho1, ho2⟩ := HD.out
        obtain ⟨g', e', p'⟩ := leads_keep (S.ways.take j) S S' gS (fun x hx => (gS.way x (List.mem_of_mem_take hx)).1) hl
        obtain ⟨g, rfl, cur, hgb⟩ : ∃ g, ao = some ⟨g, 0, none⟩ ∧ ∃ cur, W.heap[g]? = some (.cells cur 55 (0, 0)) := by
          rcases ho2.2 with ⟨e, h0⟩ | ⟨g, cap', cur, e, hb, hg, _⟩
          · omega
          · injection e with e1 e2 e3; exact ⟨g, e1, cur, hg⟩
        have hgr := hO'.old _ _ hgb (fun c fz e => by cases e)
        have cl : ∀ (i : Nat) (v : Value), (waysV S.ways)[i]? = some v → wr.cell? ⟨g, i, none⟩ = some v := fun i v hv => by
          have := ho2.cells (g := g) rfl i v hv
          rw [show (⟨g, 0, none⟩ : Addr).add i = ⟨g, i, none⟩ by simp [Addr.add]; intro h; exact h.symm] at this
          simp only [World.cell?, hgb] at this
          simp only [World.cell?, hgr]
          exact this
        obtain ⟨w0, w1, w2⟩ := waysV_at S.ways j hjn
        have x0 := cl _ _ w0
        have x1 := cl _ _ w1
        have x2 := cl _ _ w2
        have hw := gS.way _ hx
        obtain ⟨x, hxe⟩ : ∃ x, x = S.ways[j] := ⟨_, rfl⟩
        rw [← hxe] at x0 x1 x2 hw
        have hcapn : S.ways.length ≤ cap := by
          rcases ho2.2 with ⟨e, h0⟩ | ⟨g, cap', cur, e, hb, hg, h9, _⟩
          · omega
          · injection e with e1 e2 e3; omega
        have HJ := Lib.hid (And.intro hl (And.intro hA' (And.intro hO' (And.intro hxe (And.intro hx (And.intro hw (And.intro g' (And.intro e' p'))))))))
        clear hl hA' hO' hxe hx hw g' e' p' hD hK hS hA gS hc ho1 ho2 hgb hgr cl w0 w1 w2
        obtain ⟨wr1, hwr1⟩ : ∃ wr1, wr1 = wr.alloc (.cells #[.int .i64 x.line, .int .i64 (x.place : Int), .string (str x.label)] 55) := ⟨_, rfl⟩
        have hb1 : Below wr.heap.size wr wr1 := by rw [hwr1]; exact (Below.refl _ wr).alloc (Nat.le_refl _) _
        have hX : wr1.heap[wr.heap.size]? = some (.cells #[.int .i64 x.line, .int .i64 (x.place : Int), .string (str x.label)] 55) := by rw [hwr1]; exact World.alloc_heap_new wr _
        have KE : Hid (Calls Tryd.prog 25 #[.pointer (some ⟨b + 1 + 1 + 1 + 1, 0, none⟩), .agg #[.int .i64 x.line, .int .i64 (x.place : Int), .string (str x.label)]] wr1 (AsmPost5 (b + 1 + 1 + 1) (b + 1 + 1 + 1 + 1) (b + 1 + 1 + 1) (leadP S' x) wr1)) :=
          Lib.hid (led_any _ _ _ S' x (by rw [HJ.out.2.2.2.2.2.2.2.2]; exact HJ.out.2.2.2.2.2.1.1) HJ.out.2.2.2.2.2.1.2 wr1 (HJ.out.2.1.asm.of_below hb1) HJ.out.2.2.2.2.2.2.1.ok)
        have hO1 : Oth5 (b + 1 + 1 + 1) wr wr1 := Oth5.of_below hb1 (by have := HJ.out.2.1.fr.size; omega)
        have q1 : IntKind.i64.wrap ((j : Int) + 1) = (j : Int) + 1 := IntWalk.i64_in _ (by have := HD.out.2.2.2.2.1.many; have := HD.out.2.2.2.2.1.ok.2; omega)
        have hsnoc : leadsP S (S.ways.take (j + 1)) = match leadP S' x with
            | .inl c => .inl (c, x.line)
            | .inr S2 => .inr S2 := by
          rw [List.take_succ_eq_append_getElem hjn, leads_append, HJ.out.1]
          dsimp only
          rw [← HJ.out.2.2.2.1, leads_cons]
          cases leadP S' x <;> rfl
        have HX := Lib.hid (And.intro hX (And.intro hO1 hb1))
        clear hX hO1 hb1
        have hXlt : b + 1 + 1 + 1 + 1 + 1 + 1 + 1 ≤ wr.heap.size := HJ.out.2.1.fr.size
        have HXl := Lib.hid hXlt
        clear hXlt
        cases hR : leadP S' x with
        | inl c =>
          rw [hR] at KE hsnoc
          unfold AsmPost5 at KE
          dsimp only at KE hsnoc
          have hc93 : c = 93 := by
            have := leads_code (S.ways.take (j + 1)) S _ hsnoc
            exact this
          subst hc93
          have HR := Lib.hid (And.intro hR hsnoc)
          clear hR hsnoc
          gi_wp2_with (rw [← hwr1]; refine ⟨trivial, ?_⟩; gi_at_call 25; refine (callsIn_wide.2 KE.out).mono ?_; rintro e w3 ⟨rfl, ho⟩; have HO := Lib.hid ho; clear ho)
          obtain ⟨X, hXe⟩ : ∃ X, X = wr.heap.size := ⟨_, rfl⟩
          have hB3 := HJ.out.2.1.fr.oth ((HX.out.2.1.trans HO.out).oth)
          have hX3 := HO.out.old _ _ HX.out.1 (fun c fz e => by cases e)
          rw [← hXe] at hX3
          have x30 : w3.cell? ⟨X, 0, none⟩ = some (.int .i64 x.line) := cell_of_row w3 X 0 _ _ _ hX3
          have x31 : w3.drew.cell? ⟨X, 0, none⟩ = some (.int .i64 x.line) := x30
          have e0 := hB3.r0.cell
          have e1 := hB3.r1.cell
          have e2 := hB3.r2.cell
          have i0 := hB3.r0.frozen
          have i1 := hB3.r1.frozen
          have i2 := hB3.r2.frozen
          have d0 : w3.drew.cell? ⟨b, 0, none⟩ = some (.string ⟨#[]⟩) := e0
          have d1 : w3.drew.cell? ⟨b + 1, 0, none⟩ = some (.int .i64 0) := e1
          have d2 : w3.drew.cell? ⟨b + 1 + 1, 0, none⟩ = some (.int .i64 0) := e2
          have g0 : w3.drew.frozen? ⟨b, 0, none⟩ = false := i0
          have g1 : w3.drew.frozen? ⟨b + 1, 0, none⟩ = false := i1
          have g2 : w3.drew.frozen? ⟨b + 1 + 1, 0, none⟩ = false := i2
          have HB3 := Lib.hid (And.intro hB3 hX3)
          have n0 : ¬ X = b := by have := HXl.out; omega
          have n1 : ¬ X = b + 1 := by have := HXl.out; omega
          have n2 : ¬ X = b + 1 + 1 := by have := HXl.out; omega
          have hD3 : Hid (w3.heap[D]? = some (.deferred (some []))) := Lib.hid ((HJ.out.2.2.1.trans (HX.out.2.1.trans HO.out)).old _ _ HD.out.2.1 (fun c fz e => by cases e))
          clear hB3 hX3
          have HXe := Lib.hid hXe
          rw [← hXe]
          clear hXe
          have HE : Hid (∀ W4, W4 = (((w3.setCell ⟨b, 0, none⟩ (.string ⟨#[]⟩)).setCell ⟨b + 1, 0, none⟩ (.int .i64 x.line)).setCell ⟨b + 1 + 1, 0, none⟩ (.int .i64 93)).drew →
              Boxed W4 b 9 (.string ⟨#[]⟩) ∧ Boxed W4 (b + 1) 3 (.int .i64 x.line) ∧ Boxed W4 (b + 1 + 1) 22 (.int .i64 93) ∧ W4.heap[D]? = some (.deferred (some [])) ∧ Below b w W4) := Lib.hid fun W4 h4 => by
            have hB3 := HB3.out.1
            refine ⟨?_, ?_, ?_, ?_, ?_⟩
            · rw [h4]; exact ((hB3.r0.set _).other (by omega) _).other (by omega) _
            · rw [h4]; exact ((hB3.r1.other (by omega) _).set _).other (by omega) _
            · rw [h4]; exact ((hB3.r2.other (by omega) _).other (by omega) _).set _
            · rw [h4]; exact (((KeepsOthers.setCell _ _ _).trans (KeepsOthers.setCell _ _ _)).trans (KeepsOthers.setCell _ _ _)).same D _ hD3.out rfl
            · rw [h4]
              exact (((hB3.below.setCell (p := ⟨b, 0, none⟩) (Nat.le_refl _) (.string ⟨#[]⟩)).setCell (p := ⟨b + 1, 0, none⟩) (by show b ≤ b + 1; omega) (.int .i64 x.line)).setCell (p := ⟨b + 1 + 1, 0, none⟩) (by show b ≤ b + 1 + 1; omega) (.int .i64 93)).drew
          have hres : asmR s.data.toList = ([], x.line, 93) := by
            unfold asmR
            rw [← HT.out, if_neg (by omega)]
            unfold asmP
            rw [HD.out.2.2.1]
            dsimp only
            have := leads_append (S.ways.take (j + 1)) (S.ways.drop (j + 1)) S
            rw [List.take_append_drop, HR.out.2] at this
            rw [this]
          have HQ := Lib.hid hres
          clear hres
          gi_region
          gi_wp2
          obtain ⟨W4, h4⟩ : ∃ W4, W4 = (((w3.setCell ⟨b, 0, none⟩ (.string ⟨#[]⟩)).setCell ⟨b + 1, 0, none⟩ (.int .i64 x.line)).setCell ⟨b + 1 + 1, 0, none⟩ (.int .i64 93)).drew := ⟨_, rfl⟩
          rw [← h4]
          obtain ⟨b0, b1, b2, hK4, hbl⟩ := HE.out W4 h4
          refine ⟨by simp, .inl ⟨_, _, rfl, run_takeDeferred hK4, ?_⟩⟩
          have hD := HD.out.1
          rw [hsz] at hD
          have hg := grownBy_putObj' W4 D (.deferred none)
          have c0 := (b0.kept hg (fun e => by injection e with e; omega)).cell
          have c1 := (b1.kept hg (fun e => by injection e with e; omega)).cell
          have c2 := (b2.kept hg (fun e => by injection e with e; omega)).cell
          refine ⟨.tuple #[.string ⟨#[]⟩, .int .i64 x.line, .int .i64 93], ?_, by rw [HQ.out]; rfl, ?_⟩
          · simp [results, Tryd.f10, go_sem, c0, c1, c2]
          rw [← Hb.out]
          exact hbl.trans (belowK_b (w := W0) (by omega) _ D _ _ (by omega) hK4 rfl rfl)
        | inr S2 =>
          rw [hR] at KE hsnoc
          unfold AsmPost5 at KE
          dsimp only at KE hsnoc
          have HR := Lib.hid (And.intro hR hsnoc)
          clear hR hsnoc
          gi_wp2_with (rw [← hwr1]; refine ⟨trivial, ?_⟩; gi_at_call 25; refine (callsIn_wide.2 KE.out).mono ?_; rintro e w3 ⟨⟨rfl, ha⟩, ho⟩; have HO := Lib.hid (And.intro ha ho); clear ha ho)
          go_roundw
          case rel =>
            refine ⟨j + 1, S2, ?_, by omega, HR.out.2, ⟨HO.out.1, HJ.out.2.1.fr.oth ((HX.out.2.1.trans HO.out.2).oth)⟩, HJ.out.2.2.1.trans (HX.out.2.1.trans HO.out.2)⟩
            first | rfl | (exact congrArg (Value.int .i64) (by omega))
          case measure => simp [intOf]; omega
      · obtain rfl : j = S.ways.length := by omega
        rw [List.take_length] at hl
        obtain ⟨hD, hK, hS, hA, gS, hc, ho1, ho2⟩ := HD.out
        obtain ⟨g', e', p'⟩ := leads_keep S.ways S S' gS (fun x hx => (gS.way x hx).1) hl
        have hres : asmR s.data.toList = (S'.prog, 0, 0) := by
          unfold asmR
          rw [← HT.out, if_neg (by omega)]
          unfold asmP
          rw [hS]
          dsimp only
          rw [hl]
        obtain ⟨vp', vw', hc', hp', hw'⟩ := hA'.asm.cells
        obtain ⟨ap, cp, rfl⟩ := own_slice hp'
        have c5 : wr.cell? ⟨b + 1 + 1 + 1 + 1, 0, none⟩ = some (.slice ap S'.prog.length cp) := cell_of_row wr _ 0 _ _ _ hc'
        have hcv : (convert 37 9 (.slice ap S'.prog.length cp)).run Tryd.prog wr = .ok (.string (str S'.prog)) wr := by
          rcases hp'.2 with ⟨e, h0⟩ | ⟨g, cap', cur, e, hb, hg, _⟩
          · injection e with e1 e2 e3
            subst e1 e3
            have : S'.prog = [] := List.eq_nil_of_length_eq_zero e2
            rw [this]
            exact run_convert_bytes_nil _ 37 5 Tryd.underlying37 Tryd.underlying5 _ _ 9 Tryd.underlying9
          · injection e with e1 e2 e3
            subst e1
            exact run_convert_bytes_back (P := Tryd.prog) wr 37 9 5 ⟨g, 0, none⟩ cp S'.prog Tryd.underlying37 Tryd.underlying5 Tryd.underlying9 (fun j hj => by
              exact hp'.cells (g := g) rfl j (.int .u8 ((S'.prog[j]).toNat : Int)) (by simp [Lib.byteCells, hj]))
        have hB3 := hA'.fr
        have e0 := hB3.r0.cell
        have e1 := hB3.r1.cell
        have e2 := hB3.r2.cell
        have i0 := hB3.r0.frozen
        have i1 := hB3.r1.frozen
        have i2 := hB3.r2.frozen
        have hD3 := hO'.old _ _ hK (fun c fz e => by cases e)
        have HF := Lib.hid (And.intro hB3 (And.intro hres (And.intro hD3 hD)))
        clear hB3 hres hD3 hl hA' hO' hD hK hS hA gS hc ho1 ho2 g' e' p' hc' hp' hw'
        have HE : Hid (∀ W4, W4 = ((wr.setCell ⟨b, 0, none⟩ (.string (str S'.prog))).setCell ⟨b + 1, 0, none⟩ (.int .i64 0)).setCell ⟨b + 1 + 1, 0, none⟩ (.int .i64 0) →
            Boxed W4 b 9 (.string (str S'.prog)) ∧ Boxed W4 (b + 1) 3 (.int .i64 0) ∧ Boxed W4 (b + 1 + 1) 22 (.int .i64 0) ∧ W4.heap[D]? = some (.deferred (some [])) ∧ Below b w W4) := Lib.hid fun W4 h4 => by
          have hB3 := HF.out.1
          refine ⟨?_, ?_, ?_, ?_, ?_⟩
          · rw [h4]; exact ((hB3.r0.set _).other (by omega) _).other (by omega) _
          · rw [h4]; exact ((hB3.r1.other (by omega) _).set _).other (by omega) _
          · rw [h4]; exact ((hB3.r2.other (by omega) _).other (by omega) _).set _
          · rw [h4]; exact (((KeepsOthers.setCell _ _ _).trans (KeepsOthers.setCell _ _ _)).trans (KeepsOthers.setCell _ _ _)).same D _ HF.out.2.2.1 rfl
          · rw [h4]
            exact ((hB3.below.setCell (p := ⟨b, 0, none⟩) (Nat.le_refl _) (.string (str S'.prog))).setCell (p := ⟨b + 1, 0, none⟩) (by show b ≤ b + 1; omega) (.int .i64 0)).setCell (p := ⟨b + 1 + 1, 0, none⟩) (by show b ≤ b + 1 + 1; omega) (.int .i64 0)
        gi_wp2
        obtain ⟨W4, h4⟩ : ∃ W4, W4 = ((wr.setCell ⟨b, 0, none⟩ (.string (str S'.prog))).setCell ⟨b + 1, 0, none⟩ (.int .i64 0)).setCell ⟨b + 1 + 1, 0, none⟩ (.int .i64 0) := ⟨_, rfl⟩
        rw [← h4]
        obtain ⟨b0, b1, b2, hK4, hbl⟩ := HE.out W4 h4
        refine ⟨by simp, .inl ⟨_, _, rfl, run_takeDeferred hK4, ?_⟩⟩
        have hD := HF.out.2.2.2
        rw [hsz] at hD
        have hg := grownBy_putObj' W4 D (.deferred none)
        have c0 := (b0.kept hg (fun e => by injection e with e; omega)).cell
        have c1 := (b1.kept hg (fun e => by injection e with e; omega)).cell
        have c2 := (b2.kept hg (fun e => by injection e with e; omega)).cell
        refine ⟨.tuple #[.string (str S'.prog), .int .i64 0, .int .i64 0], ?_, by rw [HF.out.2.1], ?_⟩
        · simp [results, Tryd.f10, go_sem, c0, c1, c2]
        rw [← Hb.out]
        exact hbl.trans (belowK_b (w := W0) (by omega) _ D _ _ (by omega) hK4 rfl rfl)
  case stop =>
    rintro D c pre W hD ⟨rfl, ⟨k, e, ha, b0, b1, b2⟩, hbl⟩ hK
    have hres : asmR s.data.toList = ([], k, e) := by
      unfold asmR
      rw [← HT.out, if_neg (by omega)]
      unfold asmP
      rw [ha]
    have HB := Lib.hid (And.intro b0 (And.intro b1 (And.intro b2 (And.intro hbl (And.intro hD hres)))))
    clear b0 b1 b2 hbl hD ha hres
    gi_wp2
    refine ⟨by simp, .inl ⟨_, _, rfl, run_takeDeferred hK, ?_⟩⟩
    obtain ⟨b0, b1, b2, hbl, hD, hres⟩ := HB.out
    rw [hsz] at hD
    have hg := grownBy_putObj' W D (.deferred none)
    have c0 := (b0.kept hg (fun e => by injection e with e; omega)).cell
    have c1 := (b1.kept hg (fun e => by injection e with e; omega)).cell
    have c2 := (b2.kept hg (fun e => by injection e with e; omega)).cell
    refine ⟨.tuple #[.string ⟨#[]⟩, .int .i64 k, .int .i64 e], ?_, by rw [hres]; rfl, ?_⟩
    · simp [results, Tryd.f10, go_sem, c0, c1, c2]
    rw [← Hb.out]
    exact hbl.trans (belowK_b (w := W0) (by omega) _ D _ _ (by omega) hK rfl rfl)
set_option maxRecDepth 100000 in
set_option maxHeartbeats 4000000 in
theorem asm_long (s : ByteArray) (hlen : 32768 < s.size) (w : World) : Calls Tryd.prog 10 #[.string s] w fun e w' => e = .returned (.tuple #[.string ⟨#[]⟩, .int .i64 0, .int .i64 94]) ∧ Below w.heap.size w w' := by
  have hle : (32768 : Int) < (s.size : Int) := by omega
  refine (callsIn_wide (n := 9)).1 ?_
  refine callsIn_of_wp_marks Tryd.func10 rfl trivial ?_ rfl
  simp only [Tryd.ntmps10, List.size_toArray, List.length_cons, List.length_nil, Nat.reduceAdd, Nat.reduceSub, Array.replicate_succ, Array.replicate_zero, List.push_toArray, List.append_toArray, List.nil_append, List.cons_append]
  gi_wp2
  have z0 := ((Boxed.new w 9 (.string { data := #[] })).alloc (.cells #[.int .i64 0] 3)).alloc (.cells #[.int .i64 94] 22)
  have z1 := (Boxed.new (w.alloc (.cells #[.string { data := #[] }] 9)) 3 (.int .i64 0)).alloc (.cells #[.int .i64 94] 22)
  have z2 := Boxed.new ((w.alloc (.cells #[.string { data := #[] }] 9)).alloc (.cells #[.int .i64 0] 3)) 22 (.int .i64 94)
  rw [World.size_alloc] at z1
  rw [World.size_alloc, World.size_alloc] at z2
  have hb : Below w.heap.size w (((w.alloc (.cells #[.string { data := #[] }] 9)).alloc (.cells #[.int .i64 0] 3)).alloc (.cells #[.int .i64 94] 22)) := by
    refine ((((Below.refl _ w).alloc ?_ _).alloc ?_ _).alloc ?_ _) <;> simp <;> omega
  obtain ⟨W, hW⟩ : ∃ W, W = (((w.alloc (.cells #[.string { data := #[] }] 9)).alloc (.cells #[.int .i64 0] 3)).alloc (.cells #[.int .i64 94] 22)) := ⟨_, rfl⟩
  rw [← hW] at z0 z1 z2 hb ⊢
  have c0 := z0.cell
  have c1 := z1.cell
  have c2 := z2.cell
  refine ⟨.tuple #[.string ⟨#[]⟩, .int .i64 0, .int .i64 94], ?_, rfl, hb⟩
  simp [results, Tryd.f10, go_sem, c0, c1, c2]
theorem asm_any (s : ByteArray) (w : World) (hL : LaidV w) : Calls Tryd.prog 10 #[.string s] w fun e w' => e = .returned (.tuple #[.string (str (asmR s.data.toList).1), .int .i64 (asmR s.data.toList).2.1, .int .i64 (asmR s.data.toList).2.2]) ∧ Below w.heap.size w w' := by
  by_cases h : s.size ≤ 32768
  · exact asm_short s h w hL
  · have e : asmR s.data.toList = ([], 0, 94) := by
      unfold asmR
      rw [if_pos (by rw [Array.length_toList]; exact Nat.lt_of_not_le h)]
    rw [e]
    exact asm_long s (Nat.lt_of_not_le h) w
end Go.Proofs.YtmclcobklcjmnaaDoor
