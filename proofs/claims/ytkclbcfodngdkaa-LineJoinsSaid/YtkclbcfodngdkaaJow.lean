/- The row of two texts is the one's, and the other's without its pilot: the walk. Conditions: the bytes are within reach. -/
import Derived.Test.YtkclbcfodngdkaaSew
import Derived.Laws.AppendOwnNone
namespace Go.Proofs.Ytkclbcfodngdkaa
open Go.RowKit
set_option linter.unusedVariables false

theorem wp_append_run {P : Program} {o : Oper} {a : Act} {w : World} {K : Act → World → Prop} {Q : Exit → Act → World → Prop} (s x : Operand) (t : TypeId)
    (ho : o.op = .call { callee := .builtin .append, args := #[s, x], argTypes := #[t, t] }) (v sx v' : Value) (w' : World) (hs : a.eval s = v) (hx : a.eval x = sx)
    (hr : (Builtin.append_ #[t, t] o.type #[v, sx]).run P w = .ok v' w') (h : K (a.put o.dst v') w') : o.wp P a w K Q := by
  unfold Oper.wp execOp
  simp only [ho, resolve, invoke, builtin, Sem.run_bind, Sem.run_pure, Result.andThen_ok, List.map_toArray, List.map_cons, List.map_nil, hs, hx, hr]
  exact h
theorem step_append_run {P : Program} {ops : Array Oper} {o : Oper} {a : Act} {w : World} {K : Act → World → Prop} {Q : Exit → Act → World → Prop} {E : Prop} (hgd : o.guard = none) (s x : Operand) (t : TypeId)
    (ho : o.op = .call { callee := .builtin .append, args := #[s, x], argTypes := #[t, t] }) (v sx v' : Value) (w' : World) (hs : a.eval s = v) (hx : a.eval x = sx)
    (hr : (Builtin.append_ #[t, t] o.type #[v, sx]).run P w = .ok v' w') (h : K (a.put o.dst v') w') :
    if Region.wanted o (yielded ops a.tmps) = true then Oper.wp P o a w K Q else E := by
  have hw : Region.wanted o (yielded ops a.tmps) = true := by simp [Region.wanted, hgd]
  rw [if_pos hw]
  exact wp_append_run s x t ho v sx v' w' hs hx hr h
theorem cpl_one {l : List Value} (h : Cpl l) : ∀ u ∈ l, u.oneCell' = true := fun u hu => by
  obtain ⟨x, y, rfl⟩ := h u hu
  rfl
/-- points put behind points -/
theorem step_appV {ops : Array Oper} {o : Oper} {a : Act} {w : World} {K : Act → World → Prop} {Q : Exit → Act → World → Prop} {E : Prop} (hgd : o.guard = none) (s x : Operand)
    (ho : o.op = .call { callee := .builtin .append, args := #[s, x], argTypes := #[22, 22] }) (D : Nat) (ao0 : Option Addr) (cap0 : Nat) (xs : List Value) (N0 : Nat) (hN0 : N0 = xs.length) (hs : a.eval s = .slice ao0 N0 cap0)
    (hown : w.ownsRow D 27 1 (.slice ao0 N0 cap0) N0 xs) (b : Addr) (cap : Nat) (ys : List Value) (N1 : Nat) (hN1 : N1 = ys.length) (hx : a.eval x = .slice (some b) N1 cap) (hP : LiesV w (some b) ys) (hc : Cpl ys)
    (hl : xs.length + ys.length ≤ 1000000) (hD : D ≤ w.heap.size) (N : Nat) (hN : N = xs.length + ys.length)
    (h : ∀ ao' cap' w', w'.ownsRow D 27 1 (.slice ao' N cap') N (xs ++ ys) → LiesV w' ao' (xs ++ ys) → Below D w w' → D ≤ w'.heap.size → K (a.put o.dst (.slice ao' N cap')) w') :
    if Region.wanted o (yielded ops a.tmps) = true then Oper.wp Try.prog o a w K Q else E := by
  subst hN0 hN1 hN
  obtain ⟨i0, hi, hz0, hz1, hz2⟩ := info_parts Try.infoC
  obtain ⟨v', w', h1, h2, h3, _, _⟩ := run_append_own_at (P := Try.prog) (w := w) D 22 o.type 27 i0 (.complex .f64 0 0) 1 16 Try.underlying22 hi hz0 hz1 hz2 rfl (by decide) _ _ _ hown b ys.length cap ys
    (by simp) (fun j u hj => by obtain ⟨a', e, q, _⟩ := hP j u hj; cases e; exact q) (cpl_one hc) (by unfold maxLen; omega) (by omega) hD
  obtain ⟨ao', cap', rfl, hL, _⟩ := own_lies h2
  exact step_append_run hgd s x 22 ho _ _ _ w' hs hx h1 (h ao' cap' w' h2 hL ((Below.refl D w).grown h3 hD (fun g hg => (hown.lt g hg).1)) (Nat.le_trans hD h3.size))
theorem own_cap {w : World} {base : Nat} {e : TypeId} {size n cap g : Nat} {xs : List Value} (h : w.ownsRow base e size (.slice (some ⟨g, 0, none⟩) n cap) n xs) : n ≤ cap := by
  obtain ⟨h1, ⟨q, q0⟩ | ⟨g', cap', cur, q1, q2, q3, q4, q5, q6, q7⟩⟩ := h
  · omega
  · simp only [Value.slice.injEq] at q1
    obtain ⟨_, _, rfl⟩ := q1
    exact q4
theorem row_join (l m : List UInt8) : rowP (l ++ m) = rowP l ++ (rowP m).tail := by simp [rowP]
theorem size_join (s t : ByteArray) : (s ++ t).size = s.size + t.size := ByteArray.size_append
theorem list_join (s t : ByteArray) : (s ++ t).data.toList = s.data.toList ++ t.data.toList := by simp
/-- the row but for its first point -/
theorem lies_tail {w : World} {g : Nat} {l : List Value} (h : LiesV w (some ⟨g, 0, none⟩) l) : LiesV w (some ⟨g, 1, none⟩) l.tail := fun i v hi => by
  have hi' : l[i + 1]? = some v := by rw [← hi, List.getElem?_tail]
  obtain ⟨a, e, q, hb⟩ := h (i + 1) v hi'
  cases e
  refine ⟨_, rfl, ?_, hb⟩
  rw [Addr.add_mid] at q ⊢
  rw [show 1 + i = 0 + (i + 1) by omega]
  exact q
theorem cpl_tail {l : List Value} (h : Cpl l) : Cpl l.tail := fun v hv => h v (List.mem_of_mem_tail hv)
set_option maxRecDepth 100000 in
set_option maxHeartbeats 4000000 in
theorem joins_long (s t : ByteArray) (w : World) (hs2 : s.size ≤ 140737488351232) (ht2 : t.size ≤ 140737488351232) (hst : 2047 < s.size + t.size) : Calls Try.prog 4 #[.string s, .string t] w fun e w' => e = .returned (.bool true) ∧ Below w.heap.size w w' := by
  obtain ⟨D, hD⟩ : ∃ D, D = w.heap.size := ⟨_, rfl⟩
  have b0 : Below D w w := by rw [hD]; exact Below.refl _ _
  have FX : Hid (∀ w1, Below D w w1 → Calls Try.prog 8 #[] w1 fun e w' => e = .returned (.bool true) ∧ Below D w w') := fun w1 h =>
    (fixed_any w1).mono fun e w' ⟨h1, h2⟩ => ⟨h1, h.trans (h2.mono (by have := h.size; omega))⟩
  have SX : ∀ x : ByteArray, x.size ≤ 140737488351232 → ∀ w1, Below D w w1 → Calls Try.prog 5 #[.string x] w1 fun e w' => ∃ v k, e = .returned (.tuple #[v, .int .i64 k]) ∧ Below D w w' := fun x hx w1 h => by
    by_cases hlen : 2047 < x.size
    · exact (send_long x w1 hlen (by omega)).mono fun e w' ⟨h1, h2⟩ => ⟨_, _, h1, by rw [← h2]; exact h⟩
    · exact (send_any x w1 (by omega)).mono fun e w' ⟨v, h1, h2, h3⟩ => ⟨_, _, h1, h.trans (h3.mono (by have := h.size; omega))⟩
  have A5 := Lib.hid (SX s hs2)
  have B5 := Lib.hid (SX t ht2)
  have C5 := Lib.hid (fun w1 => send_long (s ++ t) w1 (by rw [size_join]; exact hst) (by rw [size_join]; omega))
  rw [← hD]
  have hi : (2047 : Int) < (s.size : Int) + (t.size : Int) := by omega
  clear SX hD
  go_enter Try.func4, Try.ntmps4
  go_wp2_with fail
  (with_reducible refine (A5.out _ b0).mono ?_)
  rintro e w1 ⟨v1, k1, rfl, b1⟩
  go_wp2_with fail
  (with_reducible refine (B5.out _ b1).mono ?_)
  rintro e w2 ⟨v2, k2, rfl, b2⟩
  go_wp2_with (first
    | (go_at_call 5; (with_reducible refine (C5.out _).mono ?_); rintro e w' ⟨rfl, rfl⟩)
    | (go_at_call 8; (with_reducible refine (FX.out _ b2).mono ?_); rintro e w' ⟨rfl, gg⟩))
  go_ret
  exact ⟨rfl, gg⟩
set_option maxRecDepth 100000 in
set_option maxHeartbeats 4000000 in
theorem joins_short (s t : ByteArray) (w : World) (hst : s.size + t.size ≤ 2047) : Calls Try.prog 4 #[.string s, .string t] w fun e w' => e = .returned (.bool true) ∧ Below w.heap.size w w' := by
  obtain ⟨D, hD⟩ : ∃ D, D = w.heap.size := ⟨_, rfl⟩
  have hzz : w.heap.size = D := hD.symm
  obtain ⟨I, hI⟩ : ∃ I : World → Prop, I = fun w1 => Below D w w1 := ⟨_, rfl⟩
  have i0 : I w := by rw [hI, hD]; exact Below.refl _ _
  have st : Stays I := by rw [hI]; exact fun w1 w2 h k => h.trans (k.mono (by have := h.size; omega))
  have idr : Hid (∀ w1, I w1 → I w1.drew) := by rw [hI]; exact fun w1 h => h.drew
  have FX : Hid (∀ w1, I w1 → Calls Try.prog 8 #[] w1 fun e w' => e = .returned (.bool true) ∧ I w' ∧ Below w1.heap.size w1 w') := fun w1 h =>
    (fixed_any w1).mono fun e w' ⟨h1, h2⟩ => ⟨h1, st w1 w' h h2, h2⟩
  have SX : ∀ x : ByteArray, x.size ≤ 2047 → ∀ w1, I w1 → Calls Try.prog 5 #[.string x] w1 fun e w' => ∃ g cap, e = .returned (.tuple #[.slice (some ⟨g, 0, none⟩) (rowP x.data.toList).length cap, .int .i64 0]) ∧ LiesV w' (some ⟨g, 0, none⟩) (rowP x.data.toList) ∧ (rowP x.data.toList).length ≤ cap ∧ I w' ∧ Below w1.heap.size w1 w' := fun x hx w1 h =>
    (send_any x w1 hx).mono fun e w' ⟨v, h1, h2, h3⟩ => by
      obtain ⟨ao, cap, rfl, hl, _⟩ := own_lies h2.1
      obtain ⟨g, rfl, _⟩ := own_open h2.1 (by rw [rowP_len]; omega)
      exact ⟨g, cap, h1, hl, own_cap h2.1, st w1 w' h h3, h3⟩
  have A5 := Lib.hid (SX s (by omega))
  have B5 := Lib.hid (SX t (by omega))
  have C5 := Lib.hid (SX (s ++ t) (by rw [size_join]; omega))
  have hr : rowP (s ++ t).data.toList = rowP s.data.toList ++ (rowP t.data.toList).tail := by rw [list_join, row_join]
  rw [hr] at C5
  have na : (rowP s.data.toList).length = 1 + 2 * s.size := by rw [rowP_len]; simp
  have nb : (rowP t.data.toList).length = 1 + 2 * t.size := by rw [rowP_len]; simp
  have ca := cpl_row s.data.toList
  have cb := cpl_row t.data.toList
  generalize rowP s.data.toList = ra at *
  generalize rowP t.data.toList = rb at *
  obtain ⟨Na, hNa⟩ : ∃ N, N = ra.length := ⟨_, rfl⟩
  obtain ⟨Nb, hNb⟩ : ∃ N, N = rb.length := ⟨_, rfl⟩
  have nt : rb.tail.length = Nb - 1 := by rw [List.length_tail, hNb]
  have nc : (ra ++ rb.tail).length = Na + (Nb - 1) := by rw [List.length_append, nt, hNa]
  have SM : Hid (∀ ao1 cap1 ao2 cap2 w1, LiesV w1 ao1 (ra ++ rb.tail) → LiesV w1 ao2 (ra ++ rb.tail) → I w1 → Calls Try.prog 7 #[.slice ao1 (Na + (Nb - 1)) cap1, .slice ao2 (Na + (Nb - 1)) cap2] w1 fun e w' => e = .returned (.bool true) ∧ I w') := fun ao1 cap1 ao2 cap2 w1 h1 h2 h3 => by
    rw [← nc]
    exact (samec_any ao1 ao2 cap1 cap2 _ w1 (by rw [nc]; omega) (fun v hv => by rw [List.mem_append] at hv; rcases hv with hv | hv; exact ca v hv; exact cpl_tail cb v hv) h1 h2).mono fun e w' ⟨q, k, hk⟩ => ⟨q, st w1 w' h3 (by rw [hk]; exact below_drewN (Below.refl _ _) k)⟩
  rw [nc] at C5
  rw [← hNa] at A5 na
  rw [← hNb] at B5 nb
  have q1 : ((Na : Int) != 2 * (s.size : Int) + 1) = false := by simp; omega
  have q2 : ((Nb : Int) != 2 * (t.size : Int) + 1) = false := by simp; omega
  have q3 : (1 : Int) ≤ (Nb : Int) := by omega
  have hsi : (s.size : Int) ≤ 2047 := by omega
  have hti : (t.size : Int) ≤ 2047 := by omega
  have hfin : Hid (∀ w1, I w1 → Below D w w1) := by rw [hI]; exact fun w1 h => h
  have CA := Lib.hid ca
  have CB := Lib.hid (cpl_tail cb)
  have HNa := Lib.hid hNa
  have NT := Lib.hid nt
  have NB := Lib.hid nb
  rw [hzz]
  have ST := Lib.hid st
  have NA := Lib.hid na
  clear SX hD hI hr ca cb hNa hNb nt nc na nb st
  go_enter Try.func4, Try.ntmps4
  go_wp2_with (first
    | (go_at_call 5; (with_reducible refine (A5.out _ i0).mono ?_); rintro e w1 ⟨g1, c1, rfl, l1, _, i1, k1⟩)
    | (go_at_call 5; (with_reducible refine (B5.out _ i1).mono ?_); rintro e w2 ⟨g2, c2, rfl, l2, hc2, i2, k2⟩)
    | (go_at_call 5; (with_reducible refine (C5.out _ i2).mono ?_); rintro e w3 ⟨g3, c3, rfl, l3, _, i3, k3⟩)
    | (go_at_call 8; (with_reducible refine (FX.out _ i3).mono ?_); rintro e w4 ⟨rfl, i4, k4⟩))
  have L1 := Lib.hid (((l1.below k2 (Nat.le_refl _)).below k3 (Nat.le_refl _)).below k4 (Nat.le_refl _))
  have L2 := (l2.below k3 (Nat.le_refl _)).below k4 (Nat.le_refl _)
  have L3 := Lib.hid (l3.below k4 (Nat.le_refl _))
  have bA : Below w4.heap.size w4 (w4.drew.alloc (.cells #[] 27)) := (Below.refl _ w4).drew.alloc (Nat.le_refl _) _
  have own0 : (w4.drew.alloc (.cells #[] 27)).ownsRow w4.heap.size 27 1 (.slice (some ⟨w4.heap.size, 0, none⟩) 0 0) 0 [] := World.ownsRow_made (base := w4.heap.size) (e := 27) (size := 1) w4.drew #[] 0 (Nat.le_refl _) (by unfold maxLen; omega) rfl
  have LA := Lib.hid (L1.out.below bA (Nat.le_refl _))
  have BA := Lib.hid bA
  have OA := Lib.hid own0
  have hsA : Hid (w4.heap.size ≤ (w4.drew.alloc (.cells #[] 27)).heap.size) := bA.size
  have hla : Hid (0 + ra.length ≤ 1000000) := by have := HNa.out; have := NB.out; have := NA.out; unfold Hid; omega
  have hN1 : Hid (Na = 0 + ra.length) := by have := HNa.out; unfold Hid; omega
  have hN2 : Hid (Na + (Nb - 1) = ra.length + rb.tail.length) := by rw [NT.out, HNa.out]; exact rfl
  have hlb : Hid (ra.length + rb.tail.length ≤ 1000000) := by unfold Hid; rw [NT.out, ← HNa.out]; have := NB.out; have := NA.out; omega
  have SL : ∃ b2 : Addr, (if c2 = 1 then (⟨g2, 0, none⟩ : Addr) else ⟨g2, 1, none⟩) = b2 ∧ LiesV w4 (some b2) rb.tail := by
    by_cases hc : c2 = 1
    · rw [if_pos hc]
      refine ⟨_, rfl, fun i v hi => ?_⟩
      have : rb.tail.length = 0 := by rw [NT.out]; omega
      rw [List.getElem?_eq_none (by omega)] at hi
      cases hi
    · rw [if_neg hc]
      exact ⟨_, rfl, lies_tail L2⟩
  obtain ⟨b2, hb2, LB⟩ := SL
  have LBH := Lib.hid LB
  clear l1 l2 l3 k1 k2 k3 k4 i1 i2 i3 LB bA own0 L2
  by_cases hc : c2 = 1
  · clear hb2
    subst hc
    obtain rfl : Nb = 1 := by omega
    have ht0 : rb.tail = [] := List.eq_nil_of_length_eq_zero NT.out
    have SM1 : Hid (∀ ao1 cap1 ao2 cap2 w1, LiesV w1 ao1 ra → LiesV w1 ao2 ra → I w1 → Calls Try.prog 7 #[.slice ao1 Na cap1, .slice ao2 Na cap2] w1 fun e w' => e = .returned (.bool true) ∧ I w') := by
      have := SM.out
      rw [ht0, List.append_nil] at this
      exact this
    have L31 : LiesV w4 (some ⟨g3, 0, none⟩) ra := by
      have := L3.out
      rw [ht0, List.append_nil] at this
      exact this
    have HL31 := Lib.hid L31
    have hnil : Hid (∀ w : World, LiesV w (some ⟨g2, 0, none⟩) []) := fun w i v hi => by simp at hi
    have hcn : Hid (Cpl []) := fun v hv => by cases hv
    have hN3 : Hid (Na = ra.length + ([] : List Value).length) := by rw [HNa.out]; exact rfl
    have hl3 : Hid (ra.length + ([] : List Value).length ≤ 1000000) := by have := hla.out; unfold Hid; simp; omega
    clear L31 ht0 q3 hc2
    go_region_held3 (fun w' => True) (exact trivial)
      (first
        | (refine step_appV (by rfl) _ _ (by rfl) w4.heap.size _ _ [] 0 rfl (by rfl) OA.out ⟨g1, 0, none⟩ c1 ra Na HNa.out (by rfl) LA.out CA.out hla.out hsA.out Na hN1.out ?_; intro ao9 cap9 w9 own9 lies9 bel9 hs9; rw [List.nil_append] at own9 lies9)
        | (refine step_appV (by rfl) _ _ (by rfl) w4.heap.size _ _ ra Na HNa.out (by rfl) own9 ⟨g2, 0, none⟩ _ [] 0 rfl (by rfl) (hnil.out _) hcn.out hl3.out hs9 Na hN3.out ?_; intro ao10 cap10 w10 own10 lies10 bel10 hs10; rw [List.append_nil] at own10 lies10; have i10 := ST.out w4 w10 i4 ((BA.out.trans bel9).trans bel10); have l10 := HL31.out.below ((BA.out.trans bel9).trans bel10) (Nat.le_refl _))
        | (go_at_call 7; (with_reducible refine (SM1.out _ _ _ _ _ l10 lies10 i10).mono ?_); rintro e w11 ⟨rfl, i11⟩))
    all_goals
      go_wp2
      go_ret
      exact ⟨rfl, hfin.out _ i11⟩
  · rw [if_neg hc] at hb2
    subst hb2
    go_region_held3 (fun w' => True) (exact trivial)
      (first
        | (refine step_appV (by rfl) _ _ (by rfl) w4.heap.size _ _ [] 0 rfl (by rfl) OA.out ⟨g1, 0, none⟩ c1 ra Na HNa.out (by rfl) LA.out CA.out hla.out hsA.out Na hN1.out ?_; intro ao9 cap9 w9 own9 lies9 bel9 hs9; rw [List.nil_append] at own9 lies9)
        | (refine step_appV (by rfl) _ _ (by rfl) w4.heap.size _ _ ra Na HNa.out (by rfl) own9 _ _ rb.tail (Nb - 1) NT.out.symm (by rfl) (LBH.out.below (BA.out.trans bel9) (Nat.le_refl _)) CB.out hlb.out hs9 (Na + (Nb - 1)) hN2.out ?_; intro ao10 cap10 w10 own10 lies10 bel10 hs10; have i10 := ST.out w4 w10 i4 ((BA.out.trans bel9).trans bel10); have l10 := L3.out.below ((BA.out.trans bel9).trans bel10) (Nat.le_refl _))
        | (go_at_call 7; (with_reducible refine (SM.out _ _ _ _ _ l10 lies10 i10).mono ?_); rintro e w11 ⟨rfl, i11⟩))
    all_goals
      go_wp2
      go_ret
      exact ⟨rfl, hfin.out _ i11⟩
theorem joins_walk (s t : ByteArray) (w : World) (hs2 : s.size ≤ 140737488351232) (ht2 : t.size ≤ 140737488351232) : Calls Try.prog 4 #[.string s, .string t] w fun e w' => e = .returned (.bool true) ∧ Below w.heap.size w w' := by
  by_cases h : 2047 < s.size + t.size
  · exact joins_long s t w hs2 ht2 h
  · exact joins_short s t w (by omega)
end Go.Proofs.Ytkclbcfodngdkaa
