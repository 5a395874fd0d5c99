/- Every call on a port and on its clones against the document's. Conditions: no list is longer than a machine holds. -/
import Derived.Test.YtolcdfkkdhkpfaaStb
namespace Go.Proofs.Ytolcdfkkdhkpfaa
open Go.RowKit Go.Maps
set_option linter.unusedVariables false
set_option linter.unusedSimpArgs false

set_option maxHeartbeats 1000000 in
theorem place_any (on : Int) (m : Nat) (h0 : 0 < m) (h1 : m ≤ 4611686018427387904) (ho : -9223372036854775808 ≤ on ∧ on ≤ 9223372036854775807) :
    ∃ j : Nat, j < m ∧ ∀ w, Calls Try.prog 11 #[.int .i64 on, .int .i64 (m : Int)] w fun e w' => e = .returned (.int .i64 (j : Int)) ∧ w = w' := by
  obtain ⟨M, hM⟩ : ∃ M : Int, M = (m : Int) := ⟨_, rfl⟩
  have m0 : 0 < M := by omega
  have hz : ¬ M = 0 := by omega
  obtain ⟨t, ht⟩ : ∃ t, t = on.tmod M := ⟨_, rfl⟩
  have t1 : -M < t ∧ t < M := by
    have a := Int.tmod_lt_of_pos on m0
    have b := Int.tmod_lt_of_pos (-on) m0
    rw [Int.neg_tmod] at b
    omega
  have wt : IntKind.i64.wrap (on.tmod M) = t := by rw [← ht]; exact IntWalk.i64_in _ (by omega)
  have jj : ∃ j : Nat, j < m ∧ (j : Int) = if t < 0 then t + M else t := by
    refine ⟨(if t < 0 then t + M else t).toNat, ?_, ?_⟩
    · split <;> omega
    · split <;> omega
  obtain ⟨j, hj, hjt⟩ := jj
  refine ⟨j, hj, fun w => ?_⟩
  have q1 : IntKind.i64.wrap (t + M) = t + M := IntWalk.i64_in _ (by omega)
  have q2 : wrap64 (t + M) = t + M := w64 (by omega)
  rw [← hM]
  have hte : on.tmod M = t := ht.symm
  have m1 : (M == 0) = false := by simpa using hz
  clear hj h0 h1 ho t1 ht hM m0
  by_cases c : t < 0
  · rw [if_pos c] at hjt
    rw [hjt]
    go_enter Try.func11, Try.ntmps11
    go_wp2
    go_ret
    all_goals exact ⟨rfl, rfl⟩
  · rw [if_neg c] at hjt
    rw [hjt]
    go_enter Try.func11, Try.ntmps11
    go_wp2
    go_ret
    exact ⟨rfl, rfl⟩
set_option maxRecDepth 100000 in
set_option maxHeartbeats 4000000 in
theorem does_no (w : World) (c : Cf) (v1 : Value) (hc : ¬ okC c) : Calls Try.prog 3 #[c.agg, v1] w fun e w' => e = .returned (.bool true) ∧ Below w.heap.size w w' := by
  have K7 : Hid (∀ W, Calls Try.prog 7 #[.agg #[.int .i64 c.kind, .int .i64 c.frm, .int .i64 c.to, .int .i64 c.size, .int .i64 c.dep]] W fun e w' => e = .returned (.tuple #[.pointer none, .int .i64 140]) ∧ Below W.heap.size W w') := Lib.hid fun W => new_no W c hc
  have K8 : Hid (∀ W, Calls Try.prog 8 #[.agg #[.int .i64 c.kind, .int .i64 c.frm, .int .i64 c.to, .int .i64 c.size, .int .i64 c.dep]] W fun e w' => e = .returned (.tuple #[.pointer none, .int .i64 140]) ∧ Below W.heap.size W w') := Lib.hid fun W => rnew_no W c hc
  have K9 : Hid (∀ W, Calls Try.prog 9 #[.agg #[.int .i64 c.kind, .int .i64 c.frm, .int .i64 c.to, .int .i64 c.size, .int .i64 c.dep]] W fun e w' => e = .returned (.int .i64 140) ∧ Below W.heap.size W w') := Lib.hid fun W => by
    have := check_any W c
    rw [show chkE c = 140 from if_neg hc] at this
    exact this
  have KF : Hid (∀ W, Calls Try.prog 10 #[] W fun e w' => e = .returned (.bool true) ∧ Below W.heap.size W w') := Lib.hid fixed_any
  have hB : Below w.heap.size w (w.alloc (.cells #[.int .i64 c.kind, .int .i64 c.frm, .int .i64 c.to, .int .i64 c.size, .int .i64 c.dep] 23)) := (Below.refl _ w).alloc (Nat.le_refl _) _
  have HB := Lib.hid hB
  have HN := Lib.hid (block_new w (.cells #[.int .i64 c.kind, .int .i64 c.frm, .int .i64 c.to, .int .i64 c.size, .int .i64 c.dep] 23))
  have HX : Hid (∀ W, Below (w.alloc (.cells #[.int .i64 c.kind, .int .i64 c.frm, .int .i64 c.to, .int .i64 c.size, .int .i64 c.dep] 23)).heap.size (w.alloc (.cells #[.int .i64 c.kind, .int .i64 c.frm, .int .i64 c.to, .int .i64 c.size, .int .i64 c.dep] 23)) W →
      W.cell? ⟨w.heap.size, 0, none⟩ = some (.int .i64 c.kind) ∧ W.cell? ⟨w.heap.size, 1, none⟩ = some (.int .i64 c.frm) ∧ W.cell? ⟨w.heap.size, 2, none⟩ = some (.int .i64 c.to) ∧ W.cell? ⟨w.heap.size, 3, none⟩ = some (.int .i64 c.size) ∧ W.cell? ⟨w.heap.size, 4, none⟩ = some (.int .i64 c.dep)) := Lib.hid fun W hW => by
    have hp := (hW.block _ (block_lt HN.out)).trans HN.out
    refine ⟨?_, ?_, ?_, ?_, ?_⟩ <;> (rw [cell_of_row _ _ _ _ _ _ hp]; rfl)
  clear hB hc
  unfold Cf.agg
  go_enter Try.func3, Try.ntmps3
  go_wp2_with (first
    | (go_at_call 7; refine (K7.out (w.alloc (.cells #[.int .i64 c.kind, .int .i64 c.frm, .int .i64 c.to, .int .i64 c.size, .int .i64 c.dep] 23))).mono ?_; rintro e w1 ⟨rfl, hb⟩; obtain ⟨x0, x1, x2, x3, x4⟩ := HX.out w1 hb; have H1 := Lib.hid hb; clear hb)
    | (go_at_call 8; refine (K8.out w1).mono ?_; rintro e w2 ⟨rfl, hb⟩; have hb2 := H1.out.trans (hb.mono H1.out.size); obtain ⟨y0, y1, y2, y3, y4⟩ := HX.out w2 hb2; have H2 := Lib.hid (HB.out.trans (hb2.mono HB.out.size)); clear hb hb2)
    | (go_at_call 9; refine (K9.out w2).mono ?_; rintro e w3 ⟨rfl, hb⟩; have H3 := Lib.hid (H2.out.trans (hb.mono H2.out.size)); clear hb)
    | (go_at_call 10; refine (KF.out _).mono ?_; rintro e w4 ⟨rfl, hb⟩; have H4 := Lib.hid (H3.out.trans (hb.mono H3.out.size)); clear hb))
  go_ret
  exact ⟨rfl, H4.out⟩
theorem Stt.init {c : Cf} {W1 w2 w3 w4 : World} {p r : Nat} (hc : okC c) (h1 : IsP w2 (newB W1 w2) p (newS c)) (b1 : Below W1.heap.size W1 w2) (h2 : IsR w3 (fun _ => False) c r (newS c)) (hr : w2.heap.size ≤ r) (b2 : Below w2.heap.size w2 w3) (b3 : Below w3.heap.size w3 w4) :
    ∃ own, Stt W1.heap.size 0 c W1 ((w4.alloc (.cells #[.pointer (some ⟨p, 0, none⟩)] 25)).alloc (.cells #[.pointer (some ⟨r, 0, none⟩)] 29)) (.slice (some ⟨w4.heap.size, 0, none⟩) 1 1) (.slice (some ⟨w4.heap.size + 1, 0, none⟩) 1 1) own [⟨p, r, newS c, newS c⟩] := by
  have na := block_new w4 (.cells #[.pointer (some ⟨p, 0, none⟩)] 25)
  have nb := block_new (w4.alloc (.cells #[.pointer (some ⟨p, 0, none⟩)] 25)) (.cells #[.pointer (some ⟨r, 0, none⟩)] 29)
  have na2 := block_alloc na (.cells #[.pointer (some ⟨r, 0, none⟩)] 29)
  rw [World.size_alloc] at nb
  have s5 : ((w4.alloc (.cells #[.pointer (some ⟨p, 0, none⟩)] 25)).alloc (.cells #[.pointer (some ⟨r, 0, none⟩)] 29)).heap.size = w4.heap.size + 2 := by rw [World.size_alloc, World.size_alloc]
  have b4 : Below w4.heap.size w4 ((w4.alloc (.cells #[.pointer (some ⟨p, 0, none⟩)] 25)).alloc (.cells #[.pointer (some ⟨r, 0, none⟩)] 29)) := ((Below.refl _ w4).alloc (Nat.le_refl _) _).alloc (by rw [World.size_alloc]; omega) _
  have z1 := b1.size
  have z2 := b2.size
  have z3 := b3.size
  have rl := h2.ltr
  generalize (w4.alloc (.cells #[.pointer (some ⟨p, 0, none⟩)] 25)).alloc (.cells #[.pointer (some ⟨r, 0, none⟩)] 29) = w5 at *
  have b35 : Below w3.heap.size w3 w5 := b3.trans (b4.mono b3.size)
  have b25 : Below w2.heap.size w2 w5 := b2.trans (b35.mono b2.size)
  have ok := new_ok hc
  refine ⟨fun j => if W1.heap.size ≤ j ∧ j < w2.heap.size then 3 else if w2.heap.size ≤ j ∧ j < w5.heap.size then 2 else 0, Nat.le_refl _, b1.trans (b25.mono b1.size), fun j hj => ?_, fun i hi => ?_, fun i hi => ?_, fun i hi => ?_, fun a b ha hb hne => ?_, ?_, fun j hj => ?_, ?_, fun j hj => ?_, Nat.zero_lt_one, Nat.le_refl _⟩
  · by_cases q : W1.heap.size ≤ j ∧ j < w2.heap.size
    · omega
    · rw [if_neg q] at hj
      by_cases q2 : w2.heap.size ≤ j ∧ j < w5.heap.size
      · omega
      · rw [if_neg q2] at hj; exact absurd rfl hj
  · have hi0 : i = 0 := by simp at hi; omega
    subst hi0
    exact (h1.below b25).mono fun j _ hj => if_pos hj
  · have hi0 : i = 0 := by simp at hi; omega
    subst hi0
    refine ⟨(h2.below b35).mono fun j _ hj => hj.elim, ?_⟩
    show (if W1.heap.size ≤ r ∧ r < w2.heap.size then 3 else if w2.heap.size ≤ r ∧ r < w5.heap.size then 2 else 0) = 2
    rw [if_neg (by omega), if_pos (by omega)]
  · have hi0 : i = 0 := by simp at hi; omega
    subst hi0
    exact ⟨ok, ok, Nat.zero_le _, Nat.zero_le _⟩
  · simp at ha hb; omega
  · exact ⟨rfl, .inr ⟨w4.heap.size, 1, #[.pointer (some ⟨p, 0, none⟩)], rfl, by omega, na2, Nat.le_refl _, by unfold maxLen; omega, rfl, rfl⟩⟩
  · injection hj with hj
    subst hj
    show (if W1.heap.size ≤ w4.heap.size ∧ w4.heap.size < w2.heap.size then 3 else if w2.heap.size ≤ w4.heap.size ∧ w4.heap.size < w5.heap.size then 2 else 0) = 2
    rw [if_neg (by omega), if_pos (by omega)]
  · exact ⟨rfl, .inr ⟨w4.heap.size + 1, 1, #[.pointer (some ⟨r, 0, none⟩)], rfl, by omega, nb, Nat.le_refl _, by unfold maxLen; omega, rfl, rfl⟩⟩
  · injection hj with hj
    subst hj
    show (if W1.heap.size ≤ w4.heap.size + 1 ∧ w4.heap.size + 1 < w2.heap.size then 3 else if w2.heap.size ≤ w4.heap.size + 1 ∧ w4.heap.size + 1 < w5.heap.size then 2 else 0) = 2
    rw [if_neg (by omega), if_pos (by omega)]
set_option maxRecDepth 100000 in
set_option maxHeartbeats 8000000 in
theorem does_yes (w : World) (c : Cf) (hc : okC c) (G1 : Nat → Prop) (v1 : Value) (os : List Opn) (h1 : OpsV G1 w v1 os) (h64 : ∀ x ∈ os, In64 x.on) (l1 : os.length ≤ 4398046511103) :
    Calls Try.prog 3 #[c.agg, v1] w fun e w' => e = .returned (.bool true) ∧ Below w.heap.size w w' := by
  obtain ⟨q1, cap1, rfl⟩ := h1.len
  obtain ⟨W1, hW1⟩ : ∃ W1, W1 = (w.alloc (.cells #[.int .i64 c.kind, .int .i64 c.frm, .int .i64 c.to, .int .i64 c.size, .int .i64 c.dep] 23)) := ⟨_, rfl⟩
  have hB : Below w.heap.size w W1 := by rw [hW1]; exact (Below.refl _ w).alloc (Nat.le_refl _) _
  have hn : W1.heap[w.heap.size]? = some (.cells #[.int .i64 c.kind, .int .i64 c.frm, .int .i64 c.to, .int .i64 c.size, .int .i64 c.dep] 23 (0, 0)) := by rw [hW1]; exact block_new _ _
  have cB : ∀ W, Below W1.heap.size W1 W → W.cell? ⟨w.heap.size, 0, none⟩ = some (.int .i64 c.kind) ∧ W.cell? ⟨w.heap.size, 1, none⟩ = some (.int .i64 c.frm) ∧ W.cell? ⟨w.heap.size, 2, none⟩ = some (.int .i64 c.to) ∧ W.cell? ⟨w.heap.size, 3, none⟩ = some (.int .i64 c.size) ∧ W.cell? ⟨w.heap.size, 4, none⟩ = some (.int .i64 c.dep) := fun W hW => by
    have hp := (hW.block _ (block_lt hn)).trans hn
    refine ⟨?_, ?_, ?_, ?_, ?_⟩ <;> (rw [cell_of_row _ _ _ _ _ _ hp]; rfl)
  have K7 : Hid (Calls Try.prog 7 #[.agg #[.int .i64 c.kind, .int .i64 c.frm, .int .i64 c.to, .int .i64 c.size, .int .i64 c.dep]] (w.alloc (.cells #[.int .i64 c.kind, .int .i64 c.frm, .int .i64 c.to, .int .i64 c.size, .int .i64 c.dep] 23)) fun e w2 => ∃ p, e = .returned (.tuple #[.pointer (some ⟨p, 0, none⟩), .int .i64 0]) ∧ (w2.cell? ⟨w.heap.size, 0, none⟩ = some (.int .i64 c.kind) ∧ w2.cell? ⟨w.heap.size, 1, none⟩ = some (.int .i64 c.frm) ∧ w2.cell? ⟨w.heap.size, 2, none⟩ = some (.int .i64 c.to) ∧ w2.cell? ⟨w.heap.size, 3, none⟩ = some (.int .i64 c.size) ∧ w2.cell? ⟨w.heap.size, 4, none⟩ = some (.int .i64 c.dep)) ∧
      Hid (Calls Try.prog 8 #[.agg #[.int .i64 c.kind, .int .i64 c.frm, .int .i64 c.to, .int .i64 c.size, .int .i64 c.dep]] w2 fun e w3 => ∃ r, e = .returned (.tuple #[.pointer (some ⟨r, 0, none⟩), .int .i64 0]) ∧ (w3.cell? ⟨w.heap.size, 0, none⟩ = some (.int .i64 c.kind) ∧ w3.cell? ⟨w.heap.size, 1, none⟩ = some (.int .i64 c.frm) ∧ w3.cell? ⟨w.heap.size, 2, none⟩ = some (.int .i64 c.to) ∧ w3.cell? ⟨w.heap.size, 3, none⟩ = some (.int .i64 c.size) ∧ w3.cell? ⟨w.heap.size, 4, none⟩ = some (.int .i64 c.dep)) ∧
        Hid (Calls Try.prog 9 #[.agg #[.int .i64 c.kind, .int .i64 c.frm, .int .i64 c.to, .int .i64 c.size, .int .i64 c.dep]] w3 fun e w4 => e = .returned (.int .i64 0) ∧ Hid (∃ own, Stt W1.heap.size 0 c W1 ((w4.alloc (.cells #[.pointer (some ⟨p, 0, none⟩)] 25)).alloc (.cells #[.pointer (some ⟨r, 0, none⟩)] 29)) (.slice (some ⟨w4.heap.size, 0, none⟩) 1 1) (.slice (some ⟨w4.heap.size + 1, 0, none⟩) 1 1) own [⟨p, r, newS c, newS c⟩])))) := Lib.hid (by
    rw [← hW1]
    refine (new_yes W1 c hc).mono fun e w2 ⟨p, x, y, z⟩ => ⟨p, x, cB w2 z, Lib.hid ?_⟩
    refine (rnew_yes w2 (fun _ => False) c hc).mono fun e w3 ⟨r, x2, y2, y3, z2⟩ => ⟨r, x2, cB w3 (z.trans (z2.mono z.size)), Lib.hid ?_⟩
    have := check_any w3 c
    rw [show chkE c = 0 from if_pos hc] at this
    exact this.mono fun e w4 ⟨x4, z4⟩ => ⟨x4, Lib.hid (Stt.init hc y z y2 y3 z2 z4)⟩)
  have KF : Hid (∀ W, Calls Try.prog 10 #[] W fun e w' => e = .returned (.bool true) ∧ Below W.heap.size W w') := Lib.hid fixed_any
  have HB := Lib.hid hB
  obtain ⟨N, hN⟩ : ∃ N, N = os.length := ⟨_, rfl⟩
  have HI : Hid (∀ k, k < N → In64 (os.getD k o00).on) := Lib.hid fun k hk => h64 _ (by
    rw [hN] at hk
    rw [List.getD_eq_getElem?_getD, List.getElem?_eq_getElem hk]; exact List.getElem_mem _)
  rw [← hN] at h1 l1 ⊢
  have HO := Lib.hid h1
  clear hB hn hc h1 hN hW1 cB h64
  unfold Cf.agg
  go_enter Try.func3, Try.ntmps3
  go_wp2_with (first
    | (go_at_call 7; refine K7.out.mono ?_; rintro e w2 ⟨p, rfl, ⟨x0, x1, x2, x3, x4⟩, H2⟩)
    | (go_at_call 8; refine H2.out.mono ?_; rintro e w3 ⟨r, rfl, ⟨y0, y1, y2, y3, y4⟩, H3⟩)
    | (go_at_call 9; refine H3.out.mono ?_; rintro e w4 ⟨rfl, H4⟩))
  clear K7 H2 H3 x0 x1 x2 x3 x4 y0 y1 y2 y3 y4
  go_loopw [9, 10, 11] (fun a b i wr => ∃ (k : Nat) (R : List Rec) (own : Nat → Nat), k ≤ N ∧ i = .int .i64 (k : Int) ∧ Stt W1.heap.size k c W1 wr a b own R ∧ Eqs R) (fun _ _ i _ => N - (RowKit.intOf i).toNat)
  case atStart =>
    obtain ⟨own, hS⟩ := H4.out
    exact ⟨0, _, own, Nat.zero_le _, rfl, hS, fun i hi => by have hi0 : i = 0 := by { simp at hi; omega }; subst hi0; rfl⟩
  case round =>
    obtain ⟨k, R, own, hk, rfl, hT, hE⟩ := hrel
    by_cases a : k < N
    · have aI : (k : Int) < (N : Int) := by omega
      have aI0 : (0 : Int) ≤ (k : Int) := by omega
      have hkl : k ≤ 4398046511104 := by omega
      have hbW : Below w.heap.size w wr := HB.out.trans (hT.bel.mono HB.out.size)
      obtain ⟨g, oo, rfl, glt, c0, c1, c2, c3⟩ := HO.out.at hbW a
      have i64 := HI.out k a
      generalize (os.getD k o00).on = on at *
      generalize (os.getD k o00).kd = kd at *
      generalize (os.getD k o00).tk = t at *
      generalize (os.getD k o00).s = m at *
      obtain ⟨wo, hwo⟩ : ∃ wo, wo = wr.alloc (.cells #[.int .i64 on, .int .i64 kd, .int .i64 t, .string m] 37) := ⟨_, rfl⟩
      have hbo : Below wr.heap.size wr wo := by rw [hwo]; exact (Below.refl _ wr).alloc (Nat.le_refl _) _
      have hrow : wo.heap[wr.heap.size]? = some (.cells #[.int .i64 on, .int .i64 kd, .int .i64 t, .string m] 37 (0, 0)) := by rw [hwo]; exact block_new _ _
      have hwsz : wo.heap.size = wr.heap.size + 1 := by rw [hwo, World.size_alloc]
      obtain ⟨j, hj, kP⟩ := place_any on R.length hT.pos (by have := hT.le; omega) (by unfold In64 at i64; omega)
      obtain ⟨gx, cx, gy, cy, rfl, rfl, cX, cY⟩ := hT.at hj
      obtain ⟨_, _, cXo, cYo⟩ := (hT.below hbo).at2 hj
      have jI : (j : Int) < (R.length : Int) := by omega
      have j0 : (0 : Int) ≤ (j : Int) := by omega
      obtain ⟨ok1, ok2, lo1, lo2⟩ := hT.o j hj
      have heq := hE j hj
      have gxo : own gx = 2 := hT.xo gx rfl
      have gyo : own gy = 2 := hT.yo gy rfl
      have obo : own wr.heap.size ≠ j + 3 := fun e => by have := (hT.dom wr.heap.size (by rw [e]; omega)).2; omega
      have dj := (hT.d j hj)
      have gxr : gx ≠ (R.getD j r00).r := TyB.ne (own_ty hT.x gx rfl).1 dj.1.ty (by decide)
      have gyr : gy ≠ (R.getD j r00).r := TyB.ne (own_ty hT.y gy rfl).1 dj.1.ty (by decide)
      have obr : wr.heap.size ≠ (R.getD j r00).r := by have := dj.1.ltr; omega
      have gxl : gx < wo.heap.size := by have := (own_ty hT.x gx rfl).1.lt; omega
      have gyl : gy < wo.heap.size := by have := (own_ty hT.y gy rfl).1.lt; omega
      -- what a round's calls keep
      have keeps : ∀ W' : World, W'.heap = wo.heap → ∀ W2 : World, (∀ b, b < W'.heap.size → own b ≠ j + 3 → b ≠ (R.getD j r00).r → W2.heap[b]? = W'.heap[b]?) → W2.cell? ⟨gx, j, none⟩ = some (.pointer (some ⟨(R.getD j r00).p, 0, none⟩)) ∧ W2.cell? ⟨gy, j, none⟩ = some (.pointer (some ⟨(R.getD j r00).r, 0, none⟩)) ∧ W2.cell? ⟨wr.heap.size, 2, none⟩ = some (.int .i64 t) ∧ W2.cell? ⟨wr.heap.size, 3, none⟩ = some (.string m) := fun W' hW' W2 hk2 => by
        rw [hW'] at hk2
        have e1 := hk2 gx gxl (by rw [gxo]; omega) gxr
        have e2 := hk2 gy gyl (by rw [gyo]; omega) gyr
        have e3 := (hk2 wr.heap.size (by omega) obo obr).trans hrow
        exact ⟨(World.cell?_of_block (a := ⟨gx, j, none⟩) e1).trans cXo, (World.cell?_of_block (a := ⟨gy, j, none⟩) e2).trans cYo, by rw [cell_of_row _ _ _ _ _ _ e3]; rfl, by rw [cell_of_row _ _ _ _ _ _ e3]; rfl⟩
      have hS0 := keeps wo.drew rfl wo.drew fun _ _ _ _ => rfl
      have KP := Lib.hid kP
      have hbd : Below wr.heap.size wr wo.drew := hbo.trans ((below_draw wo).mono hbo.size)
      have hlost : (R.getD j r00).s.lost < 4611686018427387904 := by omega
      have hlost2 : (R.getD j r00).t.lost < 4611686018427387904 := by omega
      by_cases k0 : kd = 0
      · subst k0
        have kA := hT.two hE hj hbd (sendS (R.getD j r00).s m t) (sendS (R.getD j r00).t m t) (by rw [heq]) (send_ok ok1 m t) (Nat.le_trans (send_lost _ m t) (by omega)) 12 13 #[.pointer (some ⟨(R.getD j r00).p, 0, none⟩), .string m, .int .i64 t] #[.pointer (some ⟨(R.getD j r00).r, 0, none⟩), .string m, .int .i64 t] (.int .i64 (sendE (R.getD j r00).s m t)) (.int .i64 (sendE (R.getD j r00).s m t))
          (fun W => W.cell? ⟨gx, j, none⟩ = some (.pointer (some ⟨(R.getD j r00).p, 0, none⟩)) ∧ W.cell? ⟨gy, j, none⟩ = some (.pointer (some ⟨(R.getD j r00).r, 0, none⟩)) ∧ W.cell? ⟨wr.heap.size, 2, none⟩ = some (.int .i64 t) ∧ W.cell? ⟨wr.heap.size, 3, none⟩ = some (.string m)) (keeps wo.drew rfl)
          (fun F hF => send_any _ F _ _ hF m t ok1 hlost)
          (fun W2 G hG1 hG2 => by rw [heq]; exact rsend_any W2 G c _ _ hG1 hG2 ok2 hlost2 m t)
        have KA := Lib.hid kA
        clear kA
        generalize sendE (R.getD j r00).s m t = EE at *
        rw [hwo] at KA hS0
        clear hbW hbo hrow hwsz hT hE keeps kP obo dj gxr gyr obr gxl gyl gxo gyo ok1 ok2 lo1 lo2 heq i64 hbd hlost hlost2 cXo cYo hwo
        generalize hRP : (R.getD j r00).p = RP at *
        generalize hRR : (R.getD j r00).r = RR at *
        generalize hLL : R.length = LL at *
        clear hRP hRR
        go_wp2_with (first
          | (go_at_call 11; (with_reducible refine (KP.out _).mono ?_); rintro e1 _ ⟨rfl, rfl⟩))
        go_region_held3 (fun W => W.cell? ⟨gx, j, none⟩ = some (.pointer (some ⟨RP, 0, none⟩)) ∧ W.cell? ⟨gy, j, none⟩ = some (.pointer (some ⟨RR, 0, none⟩)) ∧ W.cell? ⟨wr.heap.size, 2, none⟩ = some (.int .i64 t) ∧ W.cell? ⟨wr.heap.size, 3, none⟩ = some (.string m)) (with_reducible first | exact hS0 | exact hS1 | exact hS2) (first | (go_at_call 12; (with_reducible refine KA.out.mono ?_); rintro e1 w5 ⟨rfl, hS1, HF⟩) | (go_at_call 13; (with_reducible refine (HF.out w5 (.inl rfl)).2.mono ?_); rintro e2 w6 ⟨rfl, hS2, HG⟩))
        clear hS0 hS1 KA HF
        obtain ⟨own', R', hst, heq', hlen⟩ := HG.out
        have hj' : j < R'.length := by omega
        obtain ⟨-, -, x1, x2⟩ := hst.at2 hj'
        have eP : (R'.getD j r00).p = RP := by
          have := x1.symm.trans hS2.1
          injection this with this; injection this with this; injection this with this; injection this
        have eR : (R'.getD j r00).r = RR := by
          have := x2.symm.trans hS2.2.1
          injection this with this; injection this with this; injection this with this; injection this
        have k20 : ∀ m', Calls Try.prog 20 #[.pointer (some ⟨(R'.getD j r00).p, 0, none⟩)] (w6.drewN m') fun e w2 => e = .returned (.int .i64 ((R'.getD j r00).s.l.length : Int)) ∧ ∃ m2, w2 = w6.drewN m2 := fun m' => (len_any _ _ _ _ ((hst.u j hj').below (below_drewN (Below.refl _ w6) m'))).mono fun e w2 ⟨x, y⟩ => ⟨x, m', y.symm⟩
        obtain ⟨qL, cL, qT, cT, _, _, _, x5, _⟩ := (hst.d j hj').1.cells
        have hle' : (R'.getD j r00).t.l.length = (R'.getD j r00).s.l.length := by rw [heq' j hj']
        rw [hle'] at x5
        have HN : Hid (∀ m', Stt W1.heap.size (k + 1) c W1 (w6.drewN m') (.slice (some ⟨gx, 0, none⟩) LL cx) (.slice (some ⟨gy, 0, none⟩) LL cy) own' R') := Lib.hid fun m' => hst.below (below_drewN (Below.refl _ w6) m')
        have K20 := Lib.hid k20
        have HE := Lib.hid heq'
        have HL := Lib.hid hlen
        have HJ' : Hid (j < R'.length) := Lib.hid hj'
        have jI' : (j : Int) < (R'.length : Int) := by omega
        clear k20 hst heq' hle'
        clear hlen hj'
        generalize (R'.getD j r00).p = P2 at *
        generalize (R'.getD j r00).r = R2 at *
        generalize (R'.getD j r00).s.l.length = len2 at *
        subst eP
        subst eR
        go_wp2
        go_quiet (first | (go_at_call 20; with_reducible exact K20.out _))
        go_wp2
        exact ⟨⟨k + 1, R', own', a, by simp, HN.out _, HE.out⟩, by simp [RowKit.intOf]; omega⟩
      · have k0b : (kd == 0) = false := by simpa using k0
        by_cases k1 : kd = 1
        · subst k1
          clear k0
          have hr15 : ∀ W2 G, IsR W2 G c (R.getD j r00).r (R.getD j r00).t → ¬ G (R.getD j r00).r → Calls Try.prog 15 #[.pointer (some ⟨(R.getD j r00).r, 0, none⟩), .int .i64 t] W2 (RefP W2 G c (R.getD j r00).r (recvV (R.getD j r00).s t) (recvS (R.getD j r00).t t)) := fun W2 G hG1 hG2 => by rw [heq]; exact rrecv_any W2 G c _ _ hG1 hG2 ok2 t
          have kA := hT.two hE hj hbd (recvS (R.getD j r00).s t) (recvS (R.getD j r00).t t) (by rw [heq]) (recv_ok ok1 t) (Nat.le_trans (recv_lost _ t) (by omega)) 14 15 #[.pointer (some ⟨(R.getD j r00).p, 0, none⟩), .int .i64 t] #[.pointer (some ⟨(R.getD j r00).r, 0, none⟩), .int .i64 t] (recvV (R.getD j r00).s t) (recvV (R.getD j r00).s t)
            (fun W => W.cell? ⟨gx, j, none⟩ = some (.pointer (some ⟨(R.getD j r00).p, 0, none⟩)) ∧ W.cell? ⟨gy, j, none⟩ = some (.pointer (some ⟨(R.getD j r00).r, 0, none⟩)) ∧ W.cell? ⟨wr.heap.size, 2, none⟩ = some (.int .i64 t) ∧ W.cell? ⟨wr.heap.size, 3, none⟩ = some (.string m)) (keeps wo.drew rfl)
            (fun F hF => recv_any _ F _ _ hF t ok1)
            (fun W2 G hG1 hG2 => hr15 W2 G hG1 hG2)
          unfold recvV at kA
          have KA := Lib.hid kA
          clear kA hr15
          generalize recvM (R.getD j r00).s t = MM at *
          generalize recvN (R.getD j r00).s t = NN at *
          generalize recvE (R.getD j r00).s t = EE at *
          rw [hwo] at KA hS0
          clear hbW hbo hrow hwsz hT hE keeps kP obo dj gxr gyr obr gxl gyl gxo gyo ok1 ok2 lo1 lo2 heq i64 hbd hlost hlost2 cXo cYo hwo
          generalize hRP : (R.getD j r00).p = RP at *
          generalize hRR : (R.getD j r00).r = RR at *
          generalize hLL : R.length = LL at *
          clear hRP hRR
          go_wp2_with (first
            | (go_at_call 11; (with_reducible refine (KP.out _).mono ?_); rintro e1 _ ⟨rfl, rfl⟩))
          go_region_held3 (fun W => W.cell? ⟨gx, j, none⟩ = some (.pointer (some ⟨RP, 0, none⟩)) ∧ W.cell? ⟨gy, j, none⟩ = some (.pointer (some ⟨RR, 0, none⟩)) ∧ W.cell? ⟨wr.heap.size, 2, none⟩ = some (.int .i64 t) ∧ W.cell? ⟨wr.heap.size, 3, none⟩ = some (.string m)) (with_reducible first | exact hS0 | exact hS1) (first | (go_at_call 14; (with_reducible refine KA.out.mono ?_); rintro e1 w5 ⟨rfl, hS1, HF⟩))
          obtain ⟨hS2, kB⟩ := HF.out _ (.inr rfl)
          have KB := Lib.hid kB
          clear kB
          go_wp2
          go_region_held3 (fun W => W.cell? ⟨gx, j, none⟩ = some (.pointer (some ⟨RP, 0, none⟩)) ∧ W.cell? ⟨gy, j, none⟩ = some (.pointer (some ⟨RR, 0, none⟩)) ∧ W.cell? ⟨wr.heap.size, 2, none⟩ = some (.int .i64 t) ∧ W.cell? ⟨wr.heap.size, 3, none⟩ = some (.string m)) (with_reducible first | exact hS2 | exact hS3) (first | (go_at_call 15; (with_reducible refine KB.out.mono ?_); rintro e2 w6 ⟨rfl, hS3, HG⟩))
          clear hS0 hS1 hS2 KA KB HF
          obtain ⟨own', R', hst, heq', hlen⟩ := HG.out
          have hj' : j < R'.length := by omega
          obtain ⟨-, -, x1, x2⟩ := hst.at2 hj'
          have eP : (R'.getD j r00).p = RP := by
            have := x1.symm.trans hS3.1
            injection this with this; injection this with this; injection this with this; injection this
          have eR : (R'.getD j r00).r = RR := by
            have := x2.symm.trans hS3.2.1
            injection this with this; injection this with this; injection this with this; injection this
          have k20 : ∀ m', Calls Try.prog 20 #[.pointer (some ⟨(R'.getD j r00).p, 0, none⟩)] (w6.drewN m') fun e w2 => e = .returned (.int .i64 ((R'.getD j r00).s.l.length : Int)) ∧ ∃ m2, w2 = w6.drewN m2 := fun m' => (len_any _ _ _ _ ((hst.u j hj').below (below_drewN (Below.refl _ w6) m'))).mono fun e w2 ⟨x, y⟩ => ⟨x, m', y.symm⟩
          obtain ⟨qL, cL, qT, cT, _, _, _, x5, _⟩ := (hst.d j hj').1.cells
          have hle' : (R'.getD j r00).t.l.length = (R'.getD j r00).s.l.length := by rw [heq' j hj']
          rw [hle'] at x5
          have HN : Hid (∀ m', Stt W1.heap.size (k + 1) c W1 (w6.drewN m') (.slice (some ⟨gx, 0, none⟩) LL cx) (.slice (some ⟨gy, 0, none⟩) LL cy) own' R') := Lib.hid fun m' => hst.below (below_drewN (Below.refl _ w6) m')
          have K20 := Lib.hid k20
          have HE := Lib.hid heq'
          have HL := Lib.hid hlen
          have HJ' : Hid (j < R'.length) := Lib.hid hj'
          have jI' : (j : Int) < (R'.length : Int) := by omega
          clear k20 hst heq' hle'
          clear hlen hj'
          generalize (R'.getD j r00).p = P2 at *
          generalize (R'.getD j r00).r = R2 at *
          generalize (R'.getD j r00).s.l.length = len2 at *
          subst eP
          subst eR
          go_wp2
          go_quiet (first | (go_at_call 20; with_reducible exact K20.out _))
          go_wp2
          exact ⟨⟨k + 1, R', own', a, by simp, HN.out _, HE.out⟩, by simp [RowKit.intOf]; omega⟩
        · have k1b : (kd == 1) = false := by simpa using k1
          by_cases k2 : kd = 2
          · subst k2
            clear k0 k1
            have kA := hT.two hE hj hbo (clearS (R.getD j r00).s) (clearS (R.getD j r00).t) (by rw [heq]) (clear_ok ok1) (Nat.zero_le _) 16 17 #[.pointer (some ⟨(R.getD j r00).p, 0, none⟩)] #[.pointer (some ⟨(R.getD j r00).r, 0, none⟩)] (.tuple #[]) (.tuple #[])
              (fun W => W.cell? ⟨gx, j, none⟩ = some (.pointer (some ⟨(R.getD j r00).p, 0, none⟩)) ∧ W.cell? ⟨gy, j, none⟩ = some (.pointer (some ⟨(R.getD j r00).r, 0, none⟩)) ∧ W.cell? ⟨wr.heap.size, 2, none⟩ = some (.int .i64 t) ∧ W.cell? ⟨wr.heap.size, 3, none⟩ = some (.string m)) (keeps wo rfl)
              (fun F hF => (clear_any _ F _ _ hF).mono fun e w2 x => x)
              (fun W2 G hG1 hG2 => rclear_any W2 G c _ _ hG1)
            have KA := Lib.hid kA
            clear kA
            rw [hwo] at KA cXo cYo
            clear hS0
            clear hbW hbo hrow hwsz hT hE keeps kP obo dj gxr gyr obr gxl gyl gxo gyo ok1 ok2 lo1 lo2 heq i64 hbd hlost hlost2 hwo
            generalize hRP : (R.getD j r00).p = RP at *
            generalize hRR : (R.getD j r00).r = RR at *
            generalize hLL : R.length = LL at *
            clear hRP hRR
            go_wp2_with (first
              | (go_at_call 11; (with_reducible refine (KP.out _).mono ?_); rintro e1 _ ⟨rfl, rfl⟩)
              | (go_at_call 16; (with_reducible refine KA.out.mono ?_); rintro e1 w5 ⟨rfl, ⟨s1, s2, s3, s4⟩, HF⟩)
              | (go_at_call 17; (with_reducible refine (HF.out w5 (.inl rfl)).2.mono ?_); rintro e2 w6 ⟨rfl, ⟨s5, s6, s7, s8⟩, HG⟩))
            clear s5 s6
            obtain ⟨own', R', hst, heq', hlen⟩ := HG.out
            have hj' : j < R'.length := by omega
            obtain ⟨-, -, x1, x2⟩ := hst.at2 hj'
            have k20 : ∀ m', Calls Try.prog 20 #[.pointer (some ⟨(R'.getD j r00).p, 0, none⟩)] (w6.drewN m') fun e w2 => e = .returned (.int .i64 ((R'.getD j r00).s.l.length : Int)) ∧ ∃ m2, w2 = w6.drewN m2 := fun m' => (len_any _ _ _ _ ((hst.u j hj').below (below_drewN (Below.refl _ w6) m'))).mono fun e w2 ⟨x, y⟩ => ⟨x, m', y.symm⟩
            obtain ⟨qL, cL, qT, cT, _, _, _, x5, _⟩ := (hst.d j hj').1.cells
            have hle' : (R'.getD j r00).t.l.length = (R'.getD j r00).s.l.length := by rw [heq' j hj']
            rw [hle'] at x5
            have HN : Hid (∀ m', Stt W1.heap.size (k + 1) c W1 (w6.drewN m') (.slice (some ⟨gx, 0, none⟩) LL cx) (.slice (some ⟨gy, 0, none⟩) LL cy) own' R') := Lib.hid fun m' => hst.below (below_drewN (Below.refl _ w6) m')
            have K20 := Lib.hid k20
            have HE := Lib.hid heq'
            have HL := Lib.hid hlen
            have HJ' : Hid (j < R'.length) := Lib.hid hj'
            have jI' : (j : Int) < (R'.length : Int) := by omega
            clear k20 hst heq' hle'
            clear hlen hj'
            generalize (R'.getD j r00).p = P2 at *
            generalize (R'.getD j r00).r = R2 at *
            generalize (R'.getD j r00).s.l.length = len2 at *
            go_quiet (first | (go_at_call 20; with_reducible exact K20.out _))
            go_wp2
            exact ⟨⟨k + 1, R', own', a, by simp, HN.out _, HE.out⟩, by simp [RowKit.intOf]; omega⟩
          · have k2b : (kd == 2) = false := by simpa using k2
            by_cases k3 : kd = 3
            · subst k3
              clear k0 k1 k2
              have KA := Lib.hid (hT.clone hE hj hbo hkl rfl)
              rw [hwo] at KA cXo cYo
              clear hS0
              clear hbW hbo hrow hwsz hT hE keeps kP obo dj gxr gyr obr gxl gyl gxo gyo ok1 ok2 lo1 lo2 heq i64 hbd hlost hlost2 hwo
              generalize hRP : (R.getD j r00).p = RP at *
              generalize hRR : (R.getD j r00).r = RR at *
              generalize hLL : R.length = LL at *
              clear hRP hRR
              go_wp2_with (first
                | (go_at_call 11; (with_reducible refine (KP.out _).mono ?_); rintro e1 _ ⟨rfl, rfl⟩)
                | (go_at_call 18; (with_reducible refine KA.out.mono ?_); rintro e1 w5 ⟨p', rfl, q1, n1, c1', w6, hapX, cY5, HF⟩)
                | (at_builtin; refine wpList_app rfl (.tmp 157) (.tmp 159) 34 rfl _ _ _ _ rfl rfl hapX ?_)
                | (go_at_call 19; (with_reducible refine HF.out.mono ?_); rintro e2 w7 ⟨r', rfl, q2, n2, c2', w8, hapY, HG⟩)
                | (at_builtin; refine wpList_app rfl (.tmp 161) (.tmp 167) 35 rfl _ _ _ _ rfl rfl hapY ?_))
              obtain ⟨own', R', hst, heq', hlen⟩ := HG.out
              have hj' : j < R'.length := by omega
              obtain ⟨gx2, cx2, gy2, cy2, ex, ey, x1, x2⟩ := hst.at hj'
              injection ex with ex1 ex2 ex3
              injection ey with ey1 ey2 ey3
              subst ex1; subst ey1; subst ex2; subst ey2; subst ex3; subst ey3
              have k20 : ∀ m', Calls Try.prog 20 #[.pointer (some ⟨(R'.getD j r00).p, 0, none⟩)] (w8.drewN m') fun e w2 => e = .returned (.int .i64 ((R'.getD j r00).s.l.length : Int)) ∧ ∃ m2, w2 = w8.drewN m2 := fun m' => (len_any _ _ _ _ ((hst.u j hj').below (below_drewN (Below.refl _ w8) m'))).mono fun e w2 ⟨x, y⟩ => ⟨x, m', y.symm⟩
              obtain ⟨qL, cL, qT, cT, _, _, _, x5, _⟩ := (hst.d j hj').1.cells
              have hle' : (R'.getD j r00).t.l.length = (R'.getD j r00).s.l.length := by rw [heq' j hj']
              rw [hle'] at x5
              have HN : Hid (∀ m', Stt W1.heap.size (k + 1) c W1 (w8.drewN m') (.slice (some ⟨gx2, 0, none⟩) R'.length c1') (.slice (some ⟨gy2, 0, none⟩) R'.length c2') own' R') := Lib.hid fun m' => hst.below (below_drewN (Below.refl _ w8) m')
              have K20 := Lib.hid k20
              have HE := Lib.hid heq'
              have HL := Lib.hid hlen
              have HJ' : Hid (j < R'.length) := Lib.hid hj'
              have jI' : (j : Int) < (R'.length : Int) := by omega
              clear k20 hst heq' hle'
              clear hlen hj'
              generalize (R'.getD j r00).p = P2 at *
              generalize (R'.getD j r00).r = R2 at *
              generalize (R'.getD j r00).s.l.length = len2 at *
              go_quiet (first | (go_at_call 20; with_reducible exact K20.out _))
              go_wp2
              exact ⟨⟨k + 1, R', own', a, by simp, HN.out _, HE.out⟩, by simp [RowKit.intOf]; omega⟩
            · have k3b : (kd == 3) = false := by simpa using k3
              clear k0 k1 k2 k3
              have HG : Hid (∃ own' R', Stt W1.heap.size (k + 1) c W1 wo (.slice (some ⟨gx, 0, none⟩) R.length cx) (.slice (some ⟨gy, 0, none⟩) R.length cy) own' R' ∧ Eqs R' ∧ R'.length = R.length) := Lib.hid ⟨own, R, (hT.below hbo).next, hE, rfl⟩
              rw [hwo] at HG
              clear hS0
              clear hbW hbo hrow hwsz hT hE keeps kP obo dj gxr gyr obr gxl gyl gxo gyo ok1 ok2 lo1 lo2 heq i64 hbd hlost hlost2 cXo cYo hwo
              generalize hRP : (R.getD j r00).p = RP at *
              generalize hRR : (R.getD j r00).r = RR at *
              generalize hLL : R.length = LL at *
              clear hRP hRR
              go_wp2_with (first
                | (go_at_call 11; (with_reducible refine (KP.out _).mono ?_); rintro e1 _ ⟨rfl, rfl⟩))
              obtain ⟨own', R', hst, heq', hlen⟩ := HG.out
              have hj' : j < R'.length := by omega
              obtain ⟨-, -, x1, x2⟩ := hst.at2 hj'
              have k20 : ∀ m', Calls Try.prog 20 #[.pointer (some ⟨(R'.getD j r00).p, 0, none⟩)] ((wr.alloc (.cells #[.int .i64 on, .int .i64 kd, .int .i64 t, .string m] 37)).drewN m') fun e w2 => e = .returned (.int .i64 ((R'.getD j r00).s.l.length : Int)) ∧ ∃ m2, w2 = (wr.alloc (.cells #[.int .i64 on, .int .i64 kd, .int .i64 t, .string m] 37)).drewN m2 := fun m' => (len_any _ _ _ _ ((hst.u j hj').below (below_drewN (Below.refl _ (wr.alloc (.cells #[.int .i64 on, .int .i64 kd, .int .i64 t, .string m] 37))) m'))).mono fun e w2 ⟨x, y⟩ => ⟨x, m', y.symm⟩
              obtain ⟨qL, cL, qT, cT, _, _, _, x5, _⟩ := (hst.d j hj').1.cells
              have hle' : (R'.getD j r00).t.l.length = (R'.getD j r00).s.l.length := by rw [heq' j hj']
              rw [hle'] at x5
              have HN : Hid (∀ m', Stt W1.heap.size (k + 1) c W1 ((wr.alloc (.cells #[.int .i64 on, .int .i64 kd, .int .i64 t, .string m] 37)).drewN m') (.slice (some ⟨gx, 0, none⟩) LL cx) (.slice (some ⟨gy, 0, none⟩) LL cy) own' R') := Lib.hid fun m' => hst.below (below_drewN (Below.refl _ (wr.alloc (.cells #[.int .i64 on, .int .i64 kd, .int .i64 t, .string m] 37))) m')
              have K20 := Lib.hid k20
              have HE := Lib.hid heq'
              have HL := Lib.hid hlen
              have HJ' : Hid (j < R'.length) := Lib.hid hj'
              have jI' : (j : Int) < (R'.length : Int) := by omega
              clear k20 hst heq' hle'
              clear hlen hj'
              generalize (R'.getD j r00).p = P2 at *
              generalize (R'.getD j r00).r = R2 at *
              generalize (R'.getD j r00).s.l.length = len2 at *
              go_quiet (first | (go_at_call 20; with_reducible exact K20.out _))
              go_wp2
              exact ⟨⟨k + 1, R', own', a, by simp, HN.out _, HE.out⟩, by simp [RowKit.intOf]; omega⟩
    · obtain rfl : k = N := by omega
      obtain ⟨gx, cx, gy, cy, rfl, rfl, -, -⟩ := hT.at hT.pos
      obtain ⟨L, hL⟩ : ∃ L, L = R.length := ⟨_, rfl⟩
      have hLb : L ≤ 8796093022208 := by have := hT.le; omega
      rw [← hL] at hT
      have HT := Lib.hid (And.intro hL (And.intro hT hE))
      rw [← hL]
      clear hT hk a hE
      clear hL
      go_wp2
      go_loopw [21] (fun x wr' => ∃ (i : Nat) (R2 : List Rec) (own2 : Nat → Nat), i ≤ L ∧ x = .int .i64 (i : Int) ∧ L = R2.length ∧ Stt W1.heap.size (k + i) c W1 wr' (.slice (some ⟨gx, 0, none⟩) L cx) (.slice (some ⟨gy, 0, none⟩) L cy) own2 R2 ∧ Eqs R2) (fun x _ => L - (RowKit.intOf x).toNat)
      case atStart => exact ⟨0, R, own, Nat.zero_le _, rfl, HT.out.1, HT.out.2.1, HT.out.2.2⟩
      case round =>
        obtain ⟨i, R2, own2, hi, rfl, hL, hT, hE⟩ := hrel
        by_cases a : i < L
        · have aI : (i : Int) < (L : Int) := by omega
          have a0 : (0 : Int) ≤ (i : Int) := by omega
          have hiR : i < R2.length := by omega
          obtain ⟨-, -, cX, cY⟩ := hT.at2 hiR
          obtain ⟨ok1, ok2, lo1, lo2⟩ := hT.o i hiR
          have heq := hE i hiR
          have gyo : own2 gy = 2 := hT.yo gy rfl
          have gyr : gy ≠ (R2.getD i r00).r := TyB.ne (own_ty hT.y gy rfl).1 (hT.d i hiR).1.ty (by decide)
          have gyl : gy < wr.heap.size := (own_ty hT.y gy rfl).1.lt
          have hr15 : ∀ W2 G, IsR W2 G c (R2.getD i r00).r (R2.getD i r00).t → ¬ G (R2.getD i r00).r → Calls Try.prog 15 #[.pointer (some ⟨(R2.getD i r00).r, 0, none⟩), .int .i64 0] W2 (RefP W2 G c (R2.getD i r00).r (recvV (R2.getD i r00).s 0) (recvS (R2.getD i r00).t 0)) := fun W2 G hG1 hG2 => by rw [heq]; exact rrecv_any W2 G c _ _ hG1 hG2 ok2 0
          have kA := hT.two hE hiR (Below.refl _ wr) (recvS (R2.getD i r00).s 0) (recvS (R2.getD i r00).t 0) (by rw [heq]) (recv_ok ok1 0) (Nat.le_trans (recv_lost _ 0) (by omega)) 14 15 #[.pointer (some ⟨(R2.getD i r00).p, 0, none⟩), .int .i64 0] #[.pointer (some ⟨(R2.getD i r00).r, 0, none⟩), .int .i64 0] (recvV (R2.getD i r00).s 0) (recvV (R2.getD i r00).s 0)
            (fun W => W.cell? ⟨gy, i, none⟩ = some (.pointer (some ⟨(R2.getD i r00).r, 0, none⟩))) (fun W2 hk2 => (World.cell?_of_block (a := ⟨gy, i, none⟩) (hk2 gy gyl (by rw [gyo]; omega) gyr)).trans cY)
            (fun F hF => recv_any _ F _ _ hF 0 ok1) (fun W2 G hG1 hG2 => hr15 W2 G hG1 hG2)
          unfold recvV at kA
          have KA := Lib.hid kA
          have HLx := Lib.hid hL
          clear kA hr15 ok1 ok2 lo1 lo2 heq gyo gyr gyl hT hE hiR hL
          generalize recvM (R2.getD i r00).s 0 = MM at *
          generalize recvN (R2.getD i r00).s 0 = NN at *
          generalize recvE (R2.getD i r00).s 0 = EE at *
          generalize (R2.getD i r00).p = RP at *
          generalize (R2.getD i r00).r = RR at *
          go_wp2_with (first
            | (go_at_call 14; (with_reducible refine KA.out.mono ?_); rintro e1 w5 ⟨rfl, s1, HF⟩)
            | (go_at_call 15; (with_reducible refine (HF.out w5 (.inl rfl)).2.mono ?_); rintro e2 w6 ⟨rfl, s2, HG⟩))
          clear s1 s2
          obtain ⟨own3, R3, hS3, hE3, hl3⟩ := HG.out
          exact ⟨⟨i + 1, R3, own3, a, by simp, by rw [hl3]; exact HLx.out, by rw [show k + (i + 1) = k + i + 1 by omega]; exact hS3, hE3⟩, by simp [RowKit.intOf]; omega⟩
        · obtain rfl : i = L := by omega
          have HX := Lib.hid (HB.out.trans (hT.bel.mono HB.out.size))
          clear hT hE
          go_wp2_with (go_at_call 10; refine (KF.out _).mono ?_; rintro e1 w4 ⟨rfl, hb⟩; have H5 := Lib.hid (HX.out.trans (hb.mono HX.out.size)); clear hb)
          go_ret
          exact ⟨rfl, H5.out⟩
theorem does_any (w : World) (c : Cf) (G1 : Nat → Prop) (v1 : Value) (os : List Opn) (h1 : OpsV G1 w v1 os) (h64 : ∀ x ∈ os, In64 x.on) (l1 : os.length ≤ 4398046511103) :
    Calls Try.prog 3 #[c.agg, v1] w fun e w' => e = .returned (.bool true) ∧ Below w.heap.size w w' := by
  by_cases hc : okC c
  · exact does_yes w c hc G1 v1 os h1 h64 l1
  · exact does_no w c v1 hc
end Go.Proofs.Ytolcdfkkdhkpfaa
