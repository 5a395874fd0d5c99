/- Two ports of the same terms: what Send tells is the same, whatever is received or cleared. Conditions: no list is longer than a machine holds. -/
import Derived.Test.YtolcdfkkdhkpfaaArg
import Derived.Deep.RegionHeld3
namespace Go.Proofs.Ytolcdfkkdhkpfaa
open Go.RowKit Go.Maps Go.Sort Go.Lib
set_option linter.unusedVariables false
set_option linter.unusedSimpArgs false

/-- two ports side by side -/
def Two (w : World) (k : Nat) (W : World) (p q : Nat) (s r : Po) : Prop :=
  ∃ F G : Nat → Prop, (∀ j, F j → w.heap.size ≤ j ∧ j < W.heap.size ∧ ¬ G j) ∧ (∀ j, G j → w.heap.size ≤ j ∧ j < W.heap.size) ∧ IsP W F p s ∧ IsP W G q r ∧ Below w.heap.size w W ∧ s.ok ∧ r.ok ∧ s.lost ≤ k ∧ r.lost ≤ k ∧ s.size = r.size
theorem Two.swap {w : World} {k : Nat} {W : World} {p q : Nat} {s r : Po} (h : Two w k W p q s r) : Two w k W q p r s := by
  obtain ⟨F, G, a, b, c, d, e, f, g, i, j, l⟩ := h
  exact ⟨G, F, fun x hx => ⟨(b x hx).1, (b x hx).2, fun hy => (a x hy).2.2 hx⟩, fun x hx => ⟨(a x hx).1, (a x hx).2.1⟩, d, c, e, g, f, j, i, l.symm⟩
theorem Two.bel {w : World} {k : Nat} {W : World} {p q : Nat} {s r : Po} (h : Two w k W p q s r) : Below w.heap.size w W := by
  obtain ⟨F, G, a, b, c, d, e, _⟩ := h
  exact e
theorem Two.below {w : World} {k : Nat} {W W' : World} {p q : Nat} {s r : Po} (h : Two w k W p q s r) (hb : Below W.heap.size W W') : Two w k W' p q s r := by
  obtain ⟨F, G, a, b, c, d, e, f⟩ := h
  exact ⟨F, G, fun x hx => ⟨(a x hx).1, Nat.lt_of_lt_of_le (a x hx).2.1 hb.size, (a x hx).2.2⟩, fun x hx => ⟨(b x hx).1, Nat.lt_of_lt_of_le (b x hx).2 hb.size⟩, c.below hb, d.below hb, e.trans (hb.mono e.size), f⟩
theorem Two.next {w : World} {k : Nat} {W : World} {p q : Nat} {s r : Po} (h : Two w k W p q s r) : Two w (k + 1) W p q s r := by
  obtain ⟨F, G, a, b, c, d, e, f, g, i, j, l⟩ := h
  exact ⟨F, G, a, b, c, d, e, f, g, by omega, by omega, l⟩
/-- a call on the first one -/
theorem Two.tak {w : World} {k : Nat} {W w' : World} {p q : Nat} {r s' : Po} {v : Value} {e : Ending} {F G : Nat → Prop} (a : ∀ j, F j → w.heap.size ≤ j ∧ j < W.heap.size ∧ ¬ G j) (b : ∀ j, G j → w.heap.size ≤ j ∧ j < W.heap.size) (d : IsP W G q r) (hb : Below w.heap.size w W)
    (h : TakP W F p v s' e w') (ho : s'.ok) (hr : r.ok) (hl : s'.lost ≤ k) (hl2 : r.lost ≤ k) (hs : s'.size = r.size) : Two w k w' p q s' r := by
  obtain ⟨_, x, y⟩ := h
  refine ⟨nw F W w', G, fun j hj => ?_, fun j hj => ⟨(b j hj).1, Nat.lt_of_lt_of_le (b j hj).2 y.size⟩, x, d.keep fun j h1 h2 => y.block j h1 (fun h3 => (a j h3).2.2 h2), hb.trans (y.below hb.size fun j hj => (a j hj).1), ho, hr, hl, hl2, hs⟩
  rcases hj with hj | hj
  · exact ⟨(a j hj).1, Nat.lt_of_lt_of_le (a j hj).2.1 y.size, (a j hj).2.2⟩
  · exact ⟨Nat.le_trans hb.size hj.1, hj.2, fun h => by have := (b j h).2; omega⟩
theorem Two.send {w W : World} {k p q : Nat} {s r : Po} (h : Two w k W p q s r) (hk : k < 4611686018427387904) (m : ByteArray) (t : Int) :
    Calls Try.prog 12 #[.pointer (some ⟨p, 0, none⟩), .string m, .int .i64 t] W fun e w' => e = .returned (.int .i64 (sendE s m t)) ∧ Two w (k + 1) w' p q (sendS s m t) r := by
  obtain ⟨F, G, a, b, c, d, e, f, g, i, j, l⟩ := h
  exact (send_any W F p s c m t f (by omega)).mono fun e' w' x => ⟨x.1, Two.tak a b d e x (send_ok f m t) g (Nat.le_trans (send_lost s m t) (by omega)) (by omega) ((send_fix s m t).2.1.trans l)⟩
theorem Two.recv {w W : World} {k p q : Nat} {s r : Po} (h : Two w k W p q s r) (t : Int) :
    Calls Try.prog 14 #[.pointer (some ⟨q, 0, none⟩), .int .i64 t] W fun e w' => e = .returned (recvV r t) ∧ Two w k w' p q s (recvS r t) := by
  obtain ⟨F, G, a, b, c, d, e, f, g, i, j, l⟩ := h.swap
  exact (recv_any W F q r c t f).mono fun e' w' x => ⟨x.1, (Two.tak a b d e x (recv_ok f t) g (Nat.le_trans (recv_lost r t) i) j ((recv_fix r t).2.1.trans l)).swap⟩
theorem Two.clear {w W : World} {k p q : Nat} {s r : Po} (h : Two w k W p q s r) :
    Calls Try.prog 16 #[.pointer (some ⟨q, 0, none⟩)] W fun e w' => e = .returned (.tuple #[]) ∧ Two w k w' p q s (clearS r) := by
  obtain ⟨F, G, a, b, c, d, e, f, g, i, j, l⟩ := h.swap
  exact (clear_any W F q r c).mono fun e' w' x => ⟨x.1, (Two.tak (v := .tuple #[]) a b d e x (clear_ok f) g (Nat.zero_le _) j (show r.size = s.size from l)).swap⟩
theorem two_sendE {s r : Po} (h : s.size = r.size) (m : ByteArray) (t : Int) : sendE r m t = sendE s m t := by unfold sendE; rw [h]
theorem Two.size {w : World} {k : Nat} {W : World} {p q : Nat} {s r : Po} (h : Two w k W p q s r) : s.size = r.size := by
  obtain ⟨F, G, a, b, c, d, e, f, g, i, j, l⟩ := h; exact l
set_option maxHeartbeats 4000000 in
theorem blind_no (w : World) (c : Cf) (v1 v2 : Value) (hc : ¬ okC c) : Calls Try.prog 4 #[c.agg, v1, v2] w fun e w' => e = .returned (.bool true) ∧ Below w.heap.size w w' := by
  have K7 : Hid (∀ W, Calls Try.prog 7 #[c.agg] W fun e w' => e = .returned (.tuple #[.pointer none, .int .i64 140]) ∧ Below W.heap.size W w') := Lib.hid fun W => new_no W c hc
  have KF : Hid (∀ W, Calls Try.prog 10 #[] W fun e w' => e = .returned (.bool true) ∧ Below W.heap.size W w') := Lib.hid fixed_any
  have hB : Below w.heap.size w (w.alloc (.cells #[.int .i64 c.kind, .int .i64 c.frm, .int .i64 c.to, .int .i64 c.size, .int .i64 c.dep] 23)) := (Below.refl _ w).alloc (Nat.le_refl _) _
  have HB := Lib.hid hB
  have HN := Lib.hid (block_new w (.cells #[.int .i64 c.kind, .int .i64 c.frm, .int .i64 c.to, .int .i64 c.size, .int .i64 c.dep] 23))
  have HX : Hid (∀ W, Below (w.alloc (.cells #[.int .i64 c.kind, .int .i64 c.frm, .int .i64 c.to, .int .i64 c.size, .int .i64 c.dep] 23)).heap.size (w.alloc (.cells #[.int .i64 c.kind, .int .i64 c.frm, .int .i64 c.to, .int .i64 c.size, .int .i64 c.dep] 23)) W →
      W.cell? ⟨w.heap.size, 0, none⟩ = some (.int .i64 c.kind) ∧ W.cell? ⟨w.heap.size, 1, none⟩ = some (.int .i64 c.frm) ∧ W.cell? ⟨w.heap.size, 2, none⟩ = some (.int .i64 c.to) ∧ W.cell? ⟨w.heap.size, 3, none⟩ = some (.int .i64 c.size) ∧ W.cell? ⟨w.heap.size, 4, none⟩ = some (.int .i64 c.dep)) := Lib.hid fun W hW => by
    have hp := (hW.block _ (block_lt HN.out)).trans HN.out
    refine ⟨?_, ?_, ?_, ?_, ?_⟩ <;> (rw [cell_of_row _ _ _ _ _ _ hp]; rfl)
  clear hB hc
  unfold Cf.agg at *
  go_enter Try.func4, Try.ntmps4
  go_wp2_with (first
    | (go_at_call 7; refine (K7.out (w.alloc (.cells #[.int .i64 c.kind, .int .i64 c.frm, .int .i64 c.to, .int .i64 c.size, .int .i64 c.dep] 23))).mono ?_; rintro e w1 ⟨rfl, hb⟩; obtain ⟨x0, x1, x2, x3, x4⟩ := HX.out w1 hb; have H1 := Lib.hid (HB.out.trans (hb.mono HB.out.size)); clear hb)
    | (go_at_call 7; refine (K7.out w1).mono ?_; rintro e w2 ⟨rfl, hb⟩; have H2 := Lib.hid (H1.out.trans (hb.mono H1.out.size)); clear hb)
    | (go_at_call 10; refine (KF.out _).mono ?_; rintro e w3 ⟨rfl, hb⟩; have H3 := Lib.hid (H2.out.trans (hb.mono H2.out.size)); clear hb))
  go_ret
  exact ⟨rfl, H3.out⟩
theorem below_draw (w : World) : Below w.heap.size w w.drew := ⟨rfl, rfl, rfl, Nat.le_refl _, fun _ _ => rfl⟩
theorem Two.recvO {w W W' : World} {k p q : Nat} {s r : Po} (h : Two w k W p q s r) (hb : Below W.heap.size W W') (t : Int) :
    Calls Try.prog 14 #[.pointer (some ⟨q, 0, none⟩), .int .i64 t] W' fun e w' => e = .returned (recvV r t) ∧ (∀ b, W.heap.size ≤ b → b < W'.heap.size → w'.heap[b]? = W'.heap[b]?) ∧ Two w k w' p q s (recvS r t) := by
  have h' := h.below hb
  obtain ⟨F, G, a, b, c, d, e, f, g, i, j, l⟩ := h.swap
  have a' : ∀ j, F j → w.heap.size ≤ j ∧ j < W'.heap.size ∧ ¬ G j := fun j hj => ⟨(a j hj).1, Nat.lt_of_lt_of_le (a j hj).2.1 hb.size, (a j hj).2.2⟩
  have b' : ∀ j, G j → w.heap.size ≤ j ∧ j < W'.heap.size := fun j hj => ⟨(b j hj).1, Nat.lt_of_lt_of_le (b j hj).2 hb.size⟩
  exact (recv_any W' F q r (c.below hb) t f).mono fun e' w' x => ⟨x.1, fun k h1 h2 => x.2.2.block k h2 (fun h3 => by have := (a k h3).2.1; omega), (Two.tak a' b' (d.below hb) (e.trans (hb.mono e.size)) x (recv_ok f t) g (Nat.le_trans (recv_lost r t) i) j ((recv_fix r t).2.1.trans l)).swap⟩
theorem two_new (w : World) (c : Cf) (hc : okC c) {W : World} (hb : Below w.heap.size w W) : Calls Try.prog 7 #[c.agg] W fun e w1 => ∃ p, e = .returned (.tuple #[.pointer (some ⟨p, 0, none⟩), .int .i64 0]) ∧ Below W.heap.size W w1 ∧
    Hid (Calls Try.prog 7 #[c.agg] w1 fun e w2 => ∃ q, e = .returned (.tuple #[.pointer (some ⟨q, 0, none⟩), .int .i64 0]) ∧ Hid (Two w 0 w2 p q (newS c) (newS c))) :=
  (new_yes W c hc).mono fun e w1 ⟨p, x, y, z⟩ => ⟨p, x, z, Lib.hid ((new_yes w1 c hc).mono fun e2 w2 ⟨q, x2, y2, z2⟩ => ⟨q, x2, Lib.hid ⟨newB W w1, newB w1 w2,
    fun j hj => ⟨Nat.le_trans hb.size hj.1, Nat.lt_of_lt_of_le hj.2 z2.size, fun h => by have := h.1; have := hj.2; omega⟩, fun j hj => ⟨Nat.le_trans (Nat.le_trans hb.size z.size) hj.1, hj.2⟩, y.below z2, y2, (hb.trans (z.mono hb.size)).trans (z2.mono (Nat.le_trans hb.size z.size)), new_ok hc, new_ok hc, Nat.zero_le _, Nat.zero_le _, rfl⟩⟩)⟩
theorem rem_nat (k M : Nat) (h : 0 < M) : Int.tmod (k : Int) (M : Int) = ((k % M : Nat) : Int) := by
  rw [Int.tmod_eq_emod_of_nonneg (by omega)]; omega
set_option maxRecDepth 100000 in
set_option maxHeartbeats 8000000 in
theorem blind_yes (w : World) (c : Cf) (hc : okC c) (G1 G2 : Nat → Prop) (v1 v2 : Value) (os bs : List Opn) (h1 : OpsV G1 w v1 os) (h2 : OpsV G2 w v2 bs) (l1 : os.length ≤ 140737488355328) (l2 : bs.length ≤ 140737488355328) :
    Calls Try.prog 4 #[c.agg, v1, v2] w fun e w' => e = .returned (.bool true) ∧ Below w.heap.size w w' := by
  obtain ⟨q1, cap1, rfl⟩ := h1.len
  obtain ⟨q2, cap2, rfl⟩ := h2.len
  have hB : Below w.heap.size w (w.alloc (.cells #[.int .i64 c.kind, .int .i64 c.frm, .int .i64 c.to, .int .i64 c.size, .int .i64 c.dep] 23)) := (Below.refl _ w).alloc (Nat.le_refl _) _
  have K7 := Lib.hid (two_new w c hc hB)
  have KF : Hid (∀ W, Calls Try.prog 10 #[] W fun e w' => e = .returned (.bool true) ∧ Below W.heap.size W w') := Lib.hid fixed_any
  have HN := Lib.hid (block_new w (.cells #[.int .i64 c.kind, .int .i64 c.frm, .int .i64 c.to, .int .i64 c.size, .int .i64 c.dep] 23))
  have HX : Hid (∀ W, Below (w.alloc (.cells #[.int .i64 c.kind, .int .i64 c.frm, .int .i64 c.to, .int .i64 c.size, .int .i64 c.dep] 23)).heap.size (w.alloc (.cells #[.int .i64 c.kind, .int .i64 c.frm, .int .i64 c.to, .int .i64 c.size, .int .i64 c.dep] 23)) W →
      W.cell? ⟨w.heap.size, 0, none⟩ = some (.int .i64 c.kind) ∧ W.cell? ⟨w.heap.size, 1, none⟩ = some (.int .i64 c.frm) ∧ W.cell? ⟨w.heap.size, 2, none⟩ = some (.int .i64 c.to) ∧ W.cell? ⟨w.heap.size, 3, none⟩ = some (.int .i64 c.size) ∧ W.cell? ⟨w.heap.size, 4, none⟩ = some (.int .i64 c.dep)) := Lib.hid fun W hW => by
    have hp := (hW.block _ (block_lt HN.out)).trans HN.out
    refine ⟨?_, ?_, ?_, ?_, ?_⟩ <;> (rw [cell_of_row _ _ _ _ _ _ hp]; rfl)
  obtain ⟨N, hN⟩ : ∃ N, N = os.length := ⟨_, rfl⟩
  obtain ⟨M, hM⟩ : ∃ M, M = bs.length := ⟨_, rfl⟩
  rw [← hN] at h1 l1 ⊢
  rw [← hM] at h2 l2 ⊢
  have HO := Lib.hid h1
  have HP := Lib.hid h2
  clear hB hc h1 h2 hN hM
  unfold Cf.agg at *
  go_enter Try.func4, Try.ntmps4
  go_wp2_with (first
    | (go_at_call 7; refine K7.out.mono ?_; rintro e w1 ⟨p, rfl, hb, H1⟩; obtain ⟨x0, x1, x2, x3, x4⟩ := HX.out w1 hb; clear hb)
    | (go_at_call 7; refine H1.out.mono ?_; rintro e w2 ⟨q, rfl, H2⟩))
  clear x0 x1 x2 x3 x4 K7 H1 HX HN
  go_loopw [11] (fun i wr => ∃ (k : Nat) (s r : Po), k ≤ N ∧ i = .int .i64 (k : Int) ∧ Two w (2 * k) wr p q s r) (fun i _ => N - (RowKit.intOf i).toNat)
  case atStart => exact ⟨0, _, _, Nat.zero_le _, rfl, H2.out⟩
  case round =>
    obtain ⟨k, s, r, hk, rfl, hT⟩ := hrel
    by_cases a : k < N
    · have aI : (k : Int) < (N : Int) := by omega
      have aI0 : (0 : Int) ≤ (k : Int) := by omega
      obtain ⟨g, oo, rfl, glt, c0, c1, c2, c3⟩ := HO.out.at hT.bel a
      obtain ⟨m, hm⟩ : ∃ m, m = (os.getD k o00).s := ⟨_, rfl⟩
      obtain ⟨t, ht⟩ : ∃ t, t = (os.getD k o00).tk := ⟨_, rfl⟩
      rw [← hm] at c3
      rw [← ht] at c2
      have keep : ∀ W, Below w.heap.size wr W → W.cell? ⟨g, oo + k * 4 + 3, none⟩ = some (.string m) ∧ W.cell? ⟨g, oo + k * 4 + 2, none⟩ = some (.int .i64 t) := fun W hW => by
        have e := hW.block g glt
        exact ⟨(World.cell?_of_block (a := ⟨g, oo + k * 4 + 3, none⟩) e).trans c3, (World.cell?_of_block (a := ⟨g, oo + k * 4 + 2, none⟩) e).trans c2⟩
      have hd : Below wr.heap.size wr wr.drew := below_draw wr
      have hz := hT.bel.size
      have hS0 := keep wr.drew (hd.mono hz)
      have KA : Hid (Calls Try.prog 12 #[.pointer (some ⟨p, 0, none⟩), .string m, .int .i64 t] wr.drew fun e w3 => e = .returned (.int .i64 (sendE s m t)) ∧ (w3.cell? ⟨g, oo + k * 4 + 3, none⟩ = some (.string m) ∧ w3.cell? ⟨g, oo + k * 4 + 2, none⟩ = some (.int .i64 t)) ∧
          Hid (Calls Try.prog 12 #[.pointer (some ⟨q, 0, none⟩), .string m, .int .i64 t] w3 fun e w4 => e = .returned (.int .i64 (sendE s m t)) ∧ (w4.cell? ⟨g, oo + k * 4 + 3, none⟩ = some (.string m) ∧ w4.cell? ⟨g, oo + k * 4 + 2, none⟩ = some (.int .i64 t)) ∧ Hid (∃ s' r', Two w (2 * (k + 1)) w4 p q s' r'))) := Lib.hid (by
        refine ((hT.below hd).send (by omega) m t).mono fun e w3 ⟨x, y⟩ => ⟨x, ?_, Lib.hid ?_⟩
        · obtain ⟨y0, y1⟩ := And.intro y.bel hT.bel
          have e := (y0.block g glt).trans (y1.block g glt).symm
          exact ⟨(World.cell?_of_block (a := ⟨g, oo + k * 4 + 3, none⟩) e).trans c3, (World.cell?_of_block (a := ⟨g, oo + k * 4 + 2, none⟩) e).trans c2⟩
        · have := y.swap.send (by omega) m t
          have hs : sendE r m t = sendE s m t := two_sendE hT.size m t
          rw [hs] at this
          refine this.mono fun e w4 ⟨x2, y2⟩ => ⟨x2, ?_, Lib.hid ⟨_, _, by have := y2.swap; rw [show 2 * (k + 1) = 2 * k + 1 + 1 by omega]; exact this⟩⟩
          have e := (y2.bel.block g glt).trans (hT.bel.block g glt).symm
          exact ⟨(World.cell?_of_block (a := ⟨g, oo + k * 4 + 3, none⟩) e).trans c3, (World.cell?_of_block (a := ⟨g, oo + k * 4 + 2, none⟩) e).trans c2⟩)
      generalize sendE s m t = EE at *
      clear hT keep hd hz c0 c1 hm ht
      go_wp2
      go_region_held3 (fun W => W.cell? ⟨g, oo + k * 4 + 3, none⟩ = some (.string m) ∧ W.cell? ⟨g, oo + k * 4 + 2, none⟩ = some (.int .i64 t)) (with_reducible first | exact hS0 | exact hS1 | exact hS2) (first | (go_at_call 12; (with_reducible refine KA.out.mono ?_); rintro e1 w3 ⟨rfl, hS1, HF⟩) | (go_at_call 12; (with_reducible refine HF.out.mono ?_); rintro e2 w4 ⟨rfl, hS2, HG⟩))
      clear hS0 hS1 hS2 KA HF
      obtain ⟨s', r', hT⟩ := HG.out
      clear HG
      by_cases z : M = 0
      · subst z
        have HT := Lib.hid hT
        clear hT
        go_wp2
        exact ⟨⟨k + 1, s', r', a, by simp, HT.out⟩, by simp [RowKit.intOf]; omega⟩
      · have zI : ((M : Int) == 0) = false := by simp; omega
        obtain ⟨j, hj⟩ : ∃ j, j = k % M := ⟨_, rfl⟩
        have hjM : j < M := by rw [hj]; exact Nat.mod_lt _ (by omega)
        have hrem : Int.tmod (k : Int) (M : Int) = (j : Int) := by rw [hj]; exact rem_nat k M (by omega)
        have hrw : IntKind.i64.wrap (Int.tmod (k : Int) (M : Int)) = (j : Int) := by rw [hrem]; exact IntWalk.i64_in _ (by omega)
        have jI : (j : Int) < (M : Int) := by omega
        have jI0 : (0 : Int) ≤ (j : Int) := by omega
        obtain ⟨g2, o2, rfl, glt2, d0, d1, d2, d3⟩ := HP.out.at hT.bel hjM
        generalize (bs.getD j o00).on = on at *
        generalize (bs.getD j o00).kd = kd at *
        generalize (bs.getD j o00).tk = tk at *
        generalize (bs.getD j o00).s = st at *
        have hbo : Below w4.heap.size w4 (w4.alloc (.cells #[.int .i64 on, .int .i64 kd, .int .i64 tk, .string st] 37)) := (Below.refl _ w4).alloc (Nat.le_refl _) _
        clear hj hjM z
        by_cases z1 : kd = 1
        · subst z1
          have KR : Hid (Calls Try.prog 14 #[.pointer (some ⟨q, 0, none⟩), .int .i64 tk] (w4.alloc (.cells #[.int .i64 on, .int .i64 1, .int .i64 tk, .string st] 37)) fun e w5 => e = .returned (recvV r' tk) ∧ w5.cell? ⟨w4.heap.size, 1, none⟩ = some (.int .i64 1) ∧ Hid (∃ r2, Two w (2 * (k + 1)) w5 p q s' r2)) := Lib.hid ((hT.recvO hbo tk).mono fun e w5 ⟨x, y, z⟩ => ⟨x, by
            have := (y w4.heap.size (Nat.le_refl _) (by rw [World.size_alloc]; omega)).trans (block_new w4 _)
            rw [cell_of_row _ _ _ _ _ _ this]; rfl, Lib.hid ⟨_, z⟩⟩)
          clear hT hbo
          go_wp2_with (go_at_call 14; (with_reducible refine KR.out.mono ?_); rintro e1 w5 ⟨rfl, y1, HE⟩)
          obtain ⟨r2, hE⟩ := HE.out
          exact ⟨⟨k + 1, s', r2, a, by simp, hE⟩, by simp [RowKit.intOf]; omega⟩
        · have z1b : (kd == 1) = false := by simpa using z1
          by_cases z2 : kd = 2
          · subst z2
            have KR : Hid (Calls Try.prog 16 #[.pointer (some ⟨q, 0, none⟩)] (w4.alloc (.cells #[.int .i64 on, .int .i64 2, .int .i64 tk, .string st] 37)) fun e w5 => e = .returned (.tuple #[]) ∧ Hid (∃ r2, Two w (2 * (k + 1)) w5 p q s' r2)) := Lib.hid ((hT.below hbo).clear.mono fun e w5 ⟨x, y⟩ => ⟨x, Lib.hid ⟨_, y⟩⟩)
            clear hT hbo z1
            go_wp2_with (go_at_call 16; (with_reducible refine KR.out.mono ?_); rintro e1 w5 ⟨rfl, HE⟩)
            obtain ⟨r2, hE⟩ := HE.out
            exact ⟨⟨k + 1, s', r2, a, by simp, hE⟩, by simp [RowKit.intOf]; omega⟩
          · have z2b : (kd == 2) = false := by simpa using z2
            have HE := Lib.hid (hT.below hbo)
            clear hT hbo z1 z2
            go_wp2
            exact ⟨⟨k + 1, s', r', a, by simp, HE.out⟩, by simp [RowKit.intOf]; omega⟩
    · obtain rfl : k = N := by omega
      have HB := Lib.hid hT.bel
      clear hT
      go_wp2_with (go_at_call 10; refine (KF.out _).mono ?_; rintro e1 w4 ⟨rfl, hb⟩; have H4 := Lib.hid (HB.out.trans (hb.mono HB.out.size)); clear hb)
      go_ret
      exact ⟨rfl, H4.out⟩
theorem blind_any (w : World) (c : Cf) (G1 G2 : Nat → Prop) (v1 v2 : Value) (os bs : List Opn) (h1 : OpsV G1 w v1 os) (h2 : OpsV G2 w v2 bs) (l1 : os.length ≤ 140737488355328) (l2 : bs.length ≤ 140737488355328) :
    Calls Try.prog 4 #[c.agg, v1, v2] w fun e w' => e = .returned (.bool true) ∧ Below w.heap.size w w' := by
  by_cases hc : okC c
  · exact blind_yes w c hc G1 G2 v1 v2 os bs h1 h2 l1 l2
  · exact blind_no w c v1 v2 hc
end Go.Proofs.Ytolcdfkkdhkpfaa
