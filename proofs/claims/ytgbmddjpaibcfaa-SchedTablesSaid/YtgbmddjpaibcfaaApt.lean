/- What a table tells of a partition hangs on its own calls alone: the walk of the law. Condition: the script is no longer than a machine holds. -/
import Derived.Test.YtgbmddjpaibcfaaTbn
namespace Go.Proofs.Ytgbmddjpaibcfaa
open Go.RowKit Go.Maps
set_option linter.unusedVariables false
set_option linter.unusedSimpArgs false

/-- the two tables tell the same of partition one -/
def Agr (one : Int) (s1 s2 : List Stt) : Prop := s1.length = s2.length ∧ ∀ n : Nat, one = (n : Int) → n < s1.length → s1.getD n s00 = s2.getD n s00
def BndT (k : Nat) (ss : List Stt) : Prop := ∀ n : Nat, n < ss.length → (ss.getD n s00).2 ≤ k
theorem agr_has {one : Int} {s1 s2 : List Stt} (h : Agr one s1 s2) (i : Int) : hasI s2 i = hasI s1 i := by unfold hasI; rw [h.1]
theorem agr_at {one : Int} {s1 s2 : List Stt} (h : Agr one s1 s2) (hh : hasI s1 one = true) : s2.getD one.toNat s00 = s1.getD one.toNat s00 := by
  obtain ⟨n, rfl, hn⟩ := hasI_nat hh
  exact (h.2 n rfl hn).symm
theorem agr_entB {one : Int} {s1 s2 : List Stt} (h : Agr one s1 s2) : entB s2 one = entB s1 one := by
  unfold entB
  rw [agr_has h]
  cases hh : hasI s1 one with
  | false => rfl
  | true => rw [agr_at h hh]
theorem agr_runV {one : Int} {s1 s2 : List Stt} (h : Agr one s1 s2) : runV s2 one = runV s1 one := by
  unfold runV
  rw [agr_has h]
  cases hh : hasI s1 one with
  | false => rfl
  | true => rw [agr_at h hh]
theorem agr_staV {one : Int} {s1 s2 : List Stt} (h : Agr one s1 s2) : staV s2 one = staV s1 one := by
  unfold staV
  rw [agr_has h]
  cases hh : hasI s1 one with
  | false => rfl
  | true => rw [if_pos rfl, if_pos rfl, agr_at h hh]
theorem agr_hasE {one : Int} {s1 s2 : List Stt} (h : Agr one s1 s2) (i : Int) : hasE s2 i = hasE s1 i := by unfold hasE; rw [agr_has h]
theorem agr_set {one : Int} {s1 s2 : List Stt} (h : Agr one s1 s2) {n : Nat} (hn : n < s1.length) (v : Stt) (hne : ¬ one = (n : Int)) : Agr one (s1.set n v) s2 := by
  refine ⟨by rw [List.length_set]; exact h.1, fun m hm hl => ?_⟩
  rw [List.length_set] at hl
  rw [getD_set _ _ _ _ hn, if_neg (by intro e; subst e; exact hne hm)]
  exact h.2 m hm hl
theorem agr_set2 {one : Int} {s1 s2 : List Stt} (h : Agr one s1 s2) {n : Nat} (hn : n < s1.length) (v : Stt) : Agr one (s1.set n v) (s2.set n v) := by
  refine ⟨by rw [List.length_set, List.length_set]; exact h.1, fun m hm hl => ?_⟩
  rw [List.length_set] at hl
  rw [getD_set _ _ _ _ hn, getD_set _ _ _ _ (by rw [← h.1]; exact hn), h.2 m hm hl]
theorem agr_ent {one i : Int} {s1 s2 : List Stt} (h : Agr one s1 s2) (hne : i ≠ one) : Agr one (entS s1 i) s2 := by
  unfold entS
  split
  · rename_i hc
    obtain ⟨n, rfl, hn⟩ := hasI_nat hc.1
    exact agr_set h hn _ (fun e => hne e.symm)
  · exact h
theorem agr_trp {one i : Int} {s1 s2 : List Stt} (h : Agr one s1 s2) (hne : i ≠ one) : Agr one (trpS s1 i) s2 := by
  unfold trpS
  split
  · rename_i hc
    obtain ⟨n, rfl, hn⟩ := hasI_nat hc
    exact agr_set h hn _ (fun e => hne e.symm)
  · exact h
theorem agr_ent2 {one : Int} {s1 s2 : List Stt} (h : Agr one s1 s2) : Agr one (entS s1 one) (entS s2 one) := by
  unfold entS
  rw [agr_has h]
  cases hh : hasI s1 one with
  | false => rw [if_neg (by simp), if_neg (by simp)]; exact h
  | true =>
    rw [agr_at h hh]
    split
    · obtain ⟨n, rfl, hn⟩ := hasI_nat hh
      exact agr_set2 h hn _
    · exact h
theorem agr_trp2 {one : Int} {s1 s2 : List Stt} (h : Agr one s1 s2) : Agr one (trpS s1 one) (trpS s2 one) := by
  unfold trpS
  rw [agr_has h]
  cases hh : hasI s1 one with
  | false => rw [if_neg (by simp), if_neg (by simp)]; exact h
  | true =>
    rw [agr_at h hh, if_pos rfl, if_pos rfl]
    obtain ⟨n, rfl, hn⟩ := hasI_nat hh
    exact agr_set2 h hn _
theorem bnd_ent {k : Nat} {ss : List Stt} (h : BndT k ss) (i : Int) : BndT (k + 1) (entS ss i) := by
  unfold entS
  split
  · rename_i hc
    obtain ⟨n, rfl, hn⟩ := hasI_nat hc.1
    intro m hm
    rw [List.length_set] at hm
    rw [show ((n : Int)).toNat = n from rfl, getD_set _ _ _ _ hn]
    split
    · have := h n hn; show _ + 1 ≤ k + 1; omega
    · have := h m hm; omega
  · intro m hm; have := h m hm; omega
theorem bnd_trp {k : Nat} {ss : List Stt} (h : BndT k ss) (i : Int) : BndT (k + 1) (trpS ss i) := by
  unfold trpS
  split
  · rename_i hc
    obtain ⟨n, rfl, hn⟩ := hasI_nat hc
    intro m hm
    rw [List.length_set] at hm
    rw [show ((n : Int)).toNat = n from rfl, getD_set _ _ _ _ hn]
    split
    · have := h n hn; show (ss.getD n s00).2 ≤ k + 1; omega
    · have := h m hm; omega
  · intro m hm; have := h m hm; omega
theorem bnd_next {k : Nat} {ss : List Stt} (h : BndT k ss) : BndT (k + 1) ss := fun n hn => by have := h n hn; omega
set_option maxRecDepth 100000 in
set_option maxHeartbeats 4000000 in
theorem apart_no (w : World) (v : Value) (one n : Int) (hn : n < 0 ∨ 8 < n) (hv : ∃ q m cap, v = .slice q m cap) :
    Calls Try.prog 7 #[.int .i64 n, .int .i64 one, v] w fun e w' => e = .returned (.bool true) ∧ Below w.heap.size w w' := by
  obtain ⟨q, m, cap0, rfl⟩ := hv
  have k := fun W => ntab_no W n hn
  have KN := Lib.hid k
  have KF : Hid (∀ W, Calls Try.prog 18 #[] W fun e w' => e = .returned (.bool true) ∧ Below W.heap.size W w') := Lib.hid fixed_any
  clear k
  rcases hn with h | h
  · go_enter Try.func7, Try.ntmps7
    go_wp2_with (first
      | (go_at_call 19; refine (KN.out _).mono ?_; rintro e _ ⟨rfl, rfl⟩)
      | (go_at_call 18; refine (KF.out _).mono ?_; rintro e w4 ⟨rfl, hb⟩; have H4 := Lib.hid hb; clear hb))
    go_ret
    exact ⟨rfl, H4.out⟩
  · have h2 : ¬ n < 0 := by omega
    go_enter Try.func7, Try.ntmps7
    go_wp2_with (first
      | (go_at_call 19; refine (KN.out _).mono ?_; rintro e _ ⟨rfl, rfl⟩)
      | (go_at_call 18; refine (KF.out _).mono ?_; rintro e w4 ⟨rfl, hb⟩; have H4 := Lib.hid hb; clear hb))
    go_ret
    exact ⟨rfl, H4.out⟩
/-- the two tables stand side by side -/
def TwoT (w W : World) (n : Nat) (p1 g1 p2 g2 : Nat) (one : Int) (k : Nat) (s1 s2 : List Stt) : Prop :=
  IsT W p1 g1 s1 ∧ IsT W p2 g2 s2 ∧ s1.length = n ∧ Agr one s1 s2 ∧ BndT k s1 ∧ BndT k s2 ∧ Below w.heap.size w W ∧ w.heap.size ≤ g1 ∧ g1 < p1 ∧ p1 < g2 ∧ g2 < p2 ∧ p2 < W.heap.size
set_option maxRecDepth 100000 in
set_option maxHeartbeats 4000000 in
theorem apart_yes (w : World) (G : Nat → Prop) (v : Value) (ops : List Wn) (ht : WinV G w v ops) (hl : ops.length ≤ 140737488355328) (one : Int) (n : Nat) (hn : n ≤ 8) :
    Calls Try.prog 7 #[.int .i64 (n : Int), .int .i64 one, v] w fun e w' => e = .returned (.bool true) ∧ Below w.heap.size w w' := by
  obtain ⟨q, N, cap0, rfl⟩ : ∃ q n cap, v = .slice q n cap := by obtain ⟨q, cap, e, _⟩ := ht; exact ⟨_, _, _, e⟩
  have hN : N = ops.length := by obtain ⟨q, cap, e, _⟩ := ht; injection e
  have KN : Hid (∀ W, Calls Try.prog 19 #[.int .i64 (n : Int)] W (NtP W (List.replicate n s00))) := Lib.hid fun W => ntab_any W n hn
  have KF : Hid (∀ W, Calls Try.prog 18 #[] W fun e w' => e = .returned (.bool true) ∧ Below W.heap.size W w') := Lib.hid fixed_any
  have H := Lib.hid (And.intro ht (And.intro hN hl))
  have hN2 : N ≤ 140737488355328 := by omega
  clear ht hN hl
  go_enter Try.func7, Try.ntmps7
  go_wp2_with (first
    | (go_at_call 19; refine (KN.out w).mono ?_; rintro e w1 ⟨p1, g1, rfl, hT, h1, h2, h3, hb⟩; have H1 := Lib.hid (And.intro hT (And.intro h1 (And.intro h2 (And.intro h3 hb)))); clear hT h1 h2 h3 hb)
    | (go_at_call 19; refine (KN.out w1).mono ?_; rintro e w2 ⟨p2, g2, rfl, hT, h1, h2, h3, hb⟩; have H2 := Lib.hid (And.intro hT (And.intro h1 (And.intro h2 (And.intro h3 hb)))); clear hT h1 h2 h3 hb))
  have hS : TwoT w w2 n p1 g1 p2 g2 one 0 (List.replicate n s00) (List.replicate n s00) := by
    obtain ⟨a1, a2, a3, a4, a5⟩ := H1.out
    obtain ⟨b1, b2, b3, b4, b5⟩ := H2.out
    have e0 : BndT 0 (List.replicate n s00) := fun m hm => by rw [List.getD_eq_getElem?_getD, List.getElem?_replicate]; split <;> exact Nat.le_refl _
    exact ⟨a1.below b5, b1, List.length_replicate, ⟨rfl, fun _ _ _ => rfl⟩, e0, e0, a5.trans (b5.mono a5.size), a3, a4, Nat.lt_of_lt_of_le a1.ltp b3, b4, b1.ltp⟩
  have HS := Lib.hid hS
  clear hS H1 H2
  go_loopw [8, 10, 11] (fun a b c wr => ∃ (k : Nat) (e f : Int) (s1 s2 : List Stt), k ≤ N ∧ c = .int .i64 (k : Int) ∧ a = .int .i64 e ∧ b = .int .i64 f ∧ TwoT w wr n p1 g1 p2 g2 one k s1 s2) (fun _ _ c _ => N - (intOf c).toNat)
  case atStart => exact ⟨0, 0, 0, _, _, Nat.zero_le _, rfl, rfl, rfl, HS.out⟩
  case round =>
    obtain ⟨k, e, f, s1, s2, hk, rfl, rfl, rfl, hT⟩ := hrel
    by_cases a : k < N
    · have aI : (k : Int) < (N : Int) := by omega
      obtain ⟨g, oo, rfl, c0, c1, c2⟩ : ∃ g oo, q = some ⟨g, oo, none⟩ ∧ wr.cell? ⟨g, oo + k * 3, none⟩ = some (.int .i64 (ops.getD k w0).1) ∧ wr.cell? ⟨g, oo + k * 3 + 1, none⟩ = some (.int .i64 (ops.getD k w0).2.1) ∧ wr.cell? ⟨g, oo + k * 3 + 2, none⟩ = some (.int .i64 (ops.getD k w0).2.2) := by
        obtain ⟨q', cap, e, _, hc⟩ := H.out.1.below hT.2.2.2.2.2.2.1
        injection e with ea eb ec
        obtain ⟨b, o', hq, _, hlt, hcl⟩ := hc (fun e => by have := H.out.2.1; rw [e] at this; simp at this; omega)
        exact ⟨b, o', ea.trans hq, hcl k (by have := H.out.2.1; omega)⟩
      obtain ⟨on, hon⟩ : ∃ on, on = (ops.getD k w0).1 := ⟨_, rfl⟩
      obtain ⟨kd, hkd⟩ : ∃ kd, kd = (ops.getD k w0).2.1 := ⟨_, rfl⟩
      obtain ⟨pt, hpt⟩ : ∃ pt, pt = (ops.getD k w0).2.2 := ⟨_, rfl⟩
      rw [← hon] at c0
      rw [← hkd] at c1
      rw [← hpt] at c2
      obtain ⟨wo, hwo⟩ : ∃ wo, wo = wr.alloc (.cells #[.int .i64 on, .int .i64 kd, .int .i64 pt] 52) := ⟨_, rfl⟩
      obtain ⟨t1, t2, t3, t4, t5, t6, t7, t8, t9, t10, t11, t12⟩ := hT
      have hbo : Below wr.heap.size wr wo := by rw [hwo]; exact (Below.refl _ wr).alloc (Nat.le_refl _) _
      have hrow : wo.heap[wr.heap.size]? = some (.cells #[.int .i64 on, .int .i64 kd, .int .i64 pt] 52 (0, 0)) := by rw [hwo]; exact block_new _ _
      have u1 := t1.below hbo
      have u2 := t2.below hbo
      -- what a call on the first table leaves
      have step1 : ∀ (S : List Stt) (W : World), IsT W p1 g1 S → Ch (onB g1) wo W → S.length = n → BndT (k + 1) S →
          Hid (IsT W p2 g2 s2 ∧ (∀ j u, wo.cell? ⟨wr.heap.size, j, none⟩ = some u → W.cell? ⟨wr.heap.size, j, none⟩ = some u) ∧ (Agr one S s2 → TwoT w W n p1 g1 p2 g2 one (k + 1) S s2)) := fun S W hI hC hlen hB => Lib.hid (by
        have hp2 : IsT W p2 g2 s2 := u2.keep (hC.block p2 u2.ltp (show ¬ p2 = g1 by omega)) (fun hg => hC.block g2 hg (show ¬ g2 = g1 by omega))
        have hbw : Below w.heap.size w W := (t7.trans (hbo.mono t7.size)).trans (hC.below (Nat.le_trans t7.size hbo.size) (fun j hj => by have : j = g1 := hj; omega))
        refine ⟨hp2, fun j u hu => ?_, fun hA => ⟨hI, hp2, hlen, hA, hB, bnd_next t6, hbw, t8, t9, t10, t11, by have := hC.size; have := hbo.size; omega⟩⟩
        have : W.heap[wr.heap.size]? = wo.heap[wr.heap.size]? := hC.block _ (block_lt hrow) (show ¬ wr.heap.size = g1 by omega)
        simp only [World.cell?] at hu ⊢
        rw [this]; exact hu)
      have step3 : ∀ (S S2 : List Stt) (W W2 : World), IsT W p1 g1 S → Ch (onB g1) wo W → IsT W2 p2 g2 S2 → Ch (onB g2) W W2 → S.length = n → BndT (k + 1) S → BndT (k + 1) S2 → Agr one S S2 → Hid (TwoT w W2 n p1 g1 p2 g2 one (k + 1) S S2) := fun S S2 W W2 hI hC hI2 hC2 hlen hB hB2 hA => Lib.hid (by
        have hbw : Below w.heap.size w W := (t7.trans (hbo.mono t7.size)).trans (hC.below (Nat.le_trans t7.size hbo.size) (fun j hj => by have : j = g1 := hj; omega))
        exact ⟨hI.keep (hC2.block p1 hI.ltp (show ¬ p1 = g2 by omega)) (fun hg => hC2.block g1 hg (show ¬ g1 = g2 by omega)), hI2, hlen, hA, hB, hB2, hbw.trans (hC2.below hbw.size (fun j hj => by have : j = g2 := hj; omega)), t8, t9, t10, t11, by have := hC2.size; have := hC.size; have := hbo.size; omega⟩)
      by_cases ck : kd = 0
      · subst ck
        by_cases cp : pt = one
        · subst cp
          have kA := enter_any wo p1 g1 s1 u1 pt (fun m hm => by have := t5 m hm; omega)
          have hsA := fun (W : World) (hI : IsT W p1 g1 (entS s1 pt)) (hC : Ch (onB g1) wo W) => step1 (entS s1 pt) W hI hC (by rw [entS_len]; exact t3) (bnd_ent t5 pt)
          have hA1 : Agr pt (entS s1 pt) (entS s2 pt) := agr_ent2 t4
          have KB : Hid (∀ W, IsT W p2 g2 s2 → Calls Try.prog 22 #[.pointer (some ⟨p2, 0, none⟩), .int .i64 pt] W fun e w' => e = .returned (.tuple #[.bool (entB s1 pt), .int .i64 (hasE s1 pt)]) ∧ IsT w' p2 g2 (entS s2 pt) ∧ Ch (onB g2) W w') := Lib.hid fun W hW => by
            have := enter_any W p2 g2 s2 hW pt (fun m hm => by have := t6 m hm; omega)
            rw [agr_entB t4, agr_hasE t4] at this; exact this
          have hB2 : BndT (k + 1) (entS s2 pt) := bnd_ent t6 pt
          have TW : Hid (∀ (W : World), IsT W p1 g1 (entS s1 pt) → Ch (onB g1) wo W → IsT W p2 g2 s2 ∧ (∀ j u, wo.cell? ⟨wr.heap.size, j, none⟩ = some u → W.cell? ⟨wr.heap.size, j, none⟩ = some u) ∧ ∀ W2, IsT W2 p2 g2 (entS s2 pt) → Ch (onB g2) W W2 → TwoT w W2 n p1 g1 p2 g2 pt (k + 1) (entS s1 pt) (entS s2 pt)) := Lib.hid fun W hI hC => ⟨(hsA W hI hC).out.1, (hsA W hI hC).out.2.1, fun W2 hI2 hC2 => (step3 (entS s1 pt) (entS s2 pt) W W2 hI hC hI2 hC2 (by rw [entS_len]; exact t3) (bnd_ent t5 pt) hB2 hA1).out⟩
          rw [hwo] at kA TW
          generalize entB s1 pt = EB at *
          generalize hasE s1 pt = EE at *
          clear hsA step1 step3 hrow u1 u2 hbo hwo t1 t2 t3 t4 t5 t6 t7 t8 t9 t10 t11 t12 hon hkd hpt hA1 hB2
          go_wp2_with (first
            | (go_at_call 22; (with_reducible refine kA.mono ?_); rintro e1 w3 ⟨rfl, hI, hC⟩; have hW := TW.out w3 hI hC; have d0 := hW.2.1 0 (.int .i64 on) (by simp); have d1 := hW.2.1 1 (.int .i64 0) (by simp); have d2 := hW.2.1 2 (.int .i64 pt) (by simp); have HW := Lib.hid hW; clear hW hI hC)
            | (go_at_call 22; (with_reducible refine (KB.out w3 HW.out.1).mono ?_); rintro e2 w4 ⟨rfl, hI, hC⟩; have hW2 := HW.out.2.2 w4 hI hC; have HW2 := Lib.hid hW2; clear hW2 hI hC))
          exact ⟨⟨k + 1, _, _, _, _, a, by simp, rfl, rfl, HW2.out⟩, by simp [intOf]; omega⟩
        · have cp2 : (pt == one) = false := by simpa using cp
          have cp3 : (pt != one) = true := by simpa using cp
          have kA := enter_any wo p1 g1 s1 u1 pt (fun m hm => by have := t5 m hm; omega)
          have hsA := fun (W : World) (hI : IsT W p1 g1 (entS s1 pt)) (hC : Ch (onB g1) wo W) => step1 (entS s1 pt) W hI hC (by rw [entS_len]; exact t3) (bnd_ent t5 pt)
          have TW : Hid (∀ (W : World), IsT W p1 g1 (entS s1 pt) → Ch (onB g1) wo W → IsT W p2 g2 s2 ∧ (∀ j u, wo.cell? ⟨wr.heap.size, j, none⟩ = some u → W.cell? ⟨wr.heap.size, j, none⟩ = some u) ∧ TwoT w W n p1 g1 p2 g2 one (k + 1) (entS s1 pt) s2) := Lib.hid fun W hI hC => ⟨(hsA W hI hC).out.1, (hsA W hI hC).out.2.1, (hsA W hI hC).out.2.2 (agr_ent t4 cp)⟩
          rw [hwo] at kA TW
          generalize entB s1 pt = EB at *
          generalize hasE s1 pt = EE at *
          clear hsA step1 step3 hrow u1 u2 hbo hwo t1 t2 t3 t4 t5 t6 t7 t8 t9 t10 t11 t12 hon hkd hpt cp
          go_wp2_with (go_at_call 22; (with_reducible refine kA.mono ?_); rintro e1 w3 ⟨rfl, hI, hC⟩; have hW := TW.out w3 hI hC; have d0 := hW.2.1 0 (.int .i64 on) (by simp); have d1 := hW.2.1 1 (.int .i64 0) (by simp); have d2 := hW.2.1 2 (.int .i64 pt) (by simp); have HW := Lib.hid hW; clear hW hI hC)
          exact ⟨⟨k + 1, _, _, _, _, a, by simp, rfl, rfl, HW.out.2.2⟩, by simp [intOf]; omega⟩
      · have ck2 : (kd == 0) = false := by simpa using ck
        by_cases cp : pt = one
        · subst cp
          have kA := trap_any wo p1 g1 s1 u1 pt
          have hsA := fun (W : World) (hI : IsT W p1 g1 (trpS s1 pt)) (hC : Ch (onB g1) wo W) => step1 (trpS s1 pt) W hI hC (by rw [trpS_len]; exact t3) (bnd_trp t5 pt)
          have hA1 : Agr pt (trpS s1 pt) (trpS s2 pt) := agr_trp2 t4
          have KB : Hid (∀ W, IsT W p2 g2 s2 → Calls Try.prog 24 #[.pointer (some ⟨p2, 0, none⟩), .int .i64 pt] W fun e w' => e = .returned (.int .i64 (hasE s1 pt)) ∧ IsT w' p2 g2 (trpS s2 pt) ∧ Ch (onB g2) W w') := Lib.hid fun W hW => by
            have := trap_any W p2 g2 s2 hW pt
            rw [agr_hasE t4] at this; exact this
          have hB2 : BndT (k + 1) (trpS s2 pt) := bnd_trp t6 pt
          have TW : Hid (∀ (W : World), IsT W p1 g1 (trpS s1 pt) → Ch (onB g1) wo W → IsT W p2 g2 s2 ∧ (∀ j u, wo.cell? ⟨wr.heap.size, j, none⟩ = some u → W.cell? ⟨wr.heap.size, j, none⟩ = some u) ∧ ∀ W2, IsT W2 p2 g2 (trpS s2 pt) → Ch (onB g2) W W2 → TwoT w W2 n p1 g1 p2 g2 pt (k + 1) (trpS s1 pt) (trpS s2 pt)) := Lib.hid fun W hI hC => ⟨(hsA W hI hC).out.1, (hsA W hI hC).out.2.1, fun W2 hI2 hC2 => (step3 (trpS s1 pt) (trpS s2 pt) W W2 hI hC hI2 hC2 (by rw [trpS_len]; exact t3) (bnd_trp t5 pt) hB2 hA1).out⟩
          rw [hwo] at kA TW
          generalize hasE s1 pt = EE at *
          clear hsA step1 step3 hrow u1 u2 hbo hwo t1 t2 t3 t4 t5 t6 t7 t8 t9 t10 t11 t12 hon hkd hpt hA1 hB2
          go_wp2_with (first
            | (go_at_call 24; (with_reducible refine kA.mono ?_); rintro e1 w3 ⟨rfl, hI, hC⟩; have hW := TW.out w3 hI hC; have d0 := hW.2.1 0 (.int .i64 on) (by simp); have d1 := hW.2.1 1 (.int .i64 kd) (by simp); have d2 := hW.2.1 2 (.int .i64 pt) (by simp); have HW := Lib.hid hW; clear hW hI hC)
            | (go_at_call 24; (with_reducible refine (KB.out w3 HW.out.1).mono ?_); rintro e2 w4 ⟨rfl, hI, hC⟩; have hW2 := HW.out.2.2 w4 hI hC; have HW2 := Lib.hid hW2; clear hW2 hI hC))
          exact ⟨⟨k + 1, _, _, _, _, a, by simp, rfl, rfl, HW2.out⟩, by simp [intOf]; omega⟩
        · have cp2 : (pt == one) = false := by simpa using cp
          have cp3 : (pt != one) = true := by simpa using cp
          have kA := trap_any wo p1 g1 s1 u1 pt
          have hsA := fun (W : World) (hI : IsT W p1 g1 (trpS s1 pt)) (hC : Ch (onB g1) wo W) => step1 (trpS s1 pt) W hI hC (by rw [trpS_len]; exact t3) (bnd_trp t5 pt)
          have TW : Hid (∀ (W : World), IsT W p1 g1 (trpS s1 pt) → Ch (onB g1) wo W → IsT W p2 g2 s2 ∧ (∀ j u, wo.cell? ⟨wr.heap.size, j, none⟩ = some u → W.cell? ⟨wr.heap.size, j, none⟩ = some u) ∧ TwoT w W n p1 g1 p2 g2 one (k + 1) (trpS s1 pt) s2) := Lib.hid fun W hI hC => ⟨(hsA W hI hC).out.1, (hsA W hI hC).out.2.1, (hsA W hI hC).out.2.2 (agr_trp t4 cp)⟩
          rw [hwo] at kA TW
          generalize hasE s1 pt = EE at *
          clear hsA step1 step3 hrow u1 u2 hbo hwo t1 t2 t3 t4 t5 t6 t7 t8 t9 t10 t11 t12 hon hkd hpt cp
          go_wp2_with (go_at_call 24; (with_reducible refine kA.mono ?_); rintro e1 w3 ⟨rfl, hI, hC⟩; have hW := TW.out w3 hI hC; have d0 := hW.2.1 0 (.int .i64 on) (by simp); have d1 := hW.2.1 1 (.int .i64 kd) (by simp); have d2 := hW.2.1 2 (.int .i64 pt) (by simp); have HW := Lib.hid hW; clear hW hI hC)
          exact ⟨⟨k + 1, _, _, _, _, a, by simp, rfl, rfl, HW.out.2.2⟩, by simp [intOf]; omega⟩
    · obtain rfl : k = N := by omega
      obtain ⟨t1, t2, t3, t4, t5, t6, t7, _⟩ := hT
      have kr1 := runs_any wr p1 g1 s1 t1 one
      have kr2 := runs_any wr p2 g2 s2 t2 one
      have ks1 := starts_any wr p1 g1 s1 t1 one
      have ks2 := starts_any wr p2 g2 s2 t2 one
      rw [agr_runV t4] at kr2
      rw [agr_staV t4] at ks2
      generalize runV s1 one = R at *
      generalize staV s1 one = T at *
      have HB := Lib.hid t7
      clear t1 t2 t3 t4 t5 t6 t7 hk a
      go_wp2_with (first
        | (go_at_call 28; (with_reducible refine kr1.mono ?_); rintro e1 _ ⟨rfl, rfl⟩)
        | (go_at_call 28; (with_reducible refine kr2.mono ?_); rintro e1 _ ⟨rfl, rfl⟩)
        | (go_at_call 30; (with_reducible refine ks1.mono ?_); rintro e1 _ ⟨rfl, rfl⟩)
        | (go_at_call 30; (with_reducible refine ks2.mono ?_); rintro e1 _ ⟨rfl, rfl⟩)
        | (go_at_call 18; refine (KF.out _).mono ?_; rintro e1 w4 ⟨rfl, hb⟩; have H4 := Lib.hid (HB.out.trans (hb.mono HB.out.size)); clear hb))
      go_ret
      exact ⟨rfl, H4.out⟩
theorem apart_any (w : World) (G : Nat → Prop) (parts one : Int) (v : Value) (ops : List Wn) (ht : WinV G w v ops) (hl : ops.length ≤ 140737488355328) :
    Calls Try.prog 7 #[.int .i64 parts, .int .i64 one, v] w fun e w' => e = .returned (.bool true) ∧ Below w.heap.size w w' := by
  by_cases h : parts < 0 ∨ 8 < parts
  · exact apart_no w v one parts h (by obtain ⟨q, cap, e, _⟩ := ht; exact ⟨_, _, _, e⟩)
  · obtain ⟨n, rfl⟩ : ∃ n : Nat, parts = (n : Int) := ⟨parts.toNat, by omega⟩
    exact apart_yes w G v ops ht hl one n (by omega)
end Go.Proofs.Ytgbmddjpaibcfaa
