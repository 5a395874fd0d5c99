/- A sampling port against its last message. Conditions: no list is longer than a machine holds. -/
import Derived.Test.YtolcdfkkdhkpfaaBli
namespace Go.Proofs.Ytolcdfkkdhkpfaa
open Go.RowKit Go.Maps Go.Sort Go.Lib
set_option linter.unusedVariables false
set_option linter.unusedSimpArgs false

theorem Own.takO {w W W' w' : World} {k k' : Nat} {p : Nat} {s s' : Po} {v : Value} {P : Nat} {args : Array Value} (h : Own w k W p s) (hb : Below W.heap.size W W') (ho : s'.ok) (hl : s'.lost ≤ k')
    (hc : ∀ F, IsP W' F p s → Calls Try.prog P args W' (TakP W' F p v s')) :
    Calls Try.prog P args W' fun e w' => e = .returned v ∧ (∀ b, W.heap.size ≤ b → b < W'.heap.size → w'.heap[b]? = W'.heap[b]?) ∧ Own w k' w' p s' := by
  obtain ⟨F, h1, h2, h3, h4, h5⟩ := h
  have h2' : IsP W (fun j => F j ∧ j < W.heap.size) p s := h2.mono fun j hj hF => ⟨hF, hj⟩
  exact (hc _ (h2'.below hb)).mono fun e w' x => ⟨x.1, fun b b1 b2 => x.2.2.block b b2 (fun q => by have := q.2; omega), own_tak (fun j hj => h1 j hj.1) (h3.trans (hb.mono h3.size)) x ho hl⟩
theorem Own.sendO {w W W' : World} {k p : Nat} {s : Po} (h : Own w k W p s) (hk : k < 4611686018427387904) (hb : Below W.heap.size W W') (m : ByteArray) (t : Int) :
    Calls Try.prog 12 #[.pointer (some ⟨p, 0, none⟩), .string m, .int .i64 t] W' fun e w' => e = .returned (.int .i64 (sendE s m t)) ∧ (∀ b, W.heap.size ≤ b → b < W'.heap.size → w'.heap[b]? = W'.heap[b]?) ∧ Own w (k + 1) w' p (sendS s m t) := by
  have hok := h.ok
  obtain ⟨F, h1, h2, h3, h4, h5⟩ := h
  exact (show Own w k W p s from ⟨F, h1, h2, h3, h4, h5⟩).takO (w' := W') hb (send_ok hok m t) (Nat.le_trans (send_lost s m t) (by omega)) fun F' hF' => send_any W' F' p s hF' m t hok (by omega)
theorem Own.recvO {w W W' : World} {k p : Nat} {s : Po} (h : Own w k W p s) (hb : Below W.heap.size W W') (t : Int) :
    Calls Try.prog 14 #[.pointer (some ⟨p, 0, none⟩), .int .i64 t] W' fun e w' => e = .returned (recvV s t) ∧ (∀ b, W.heap.size ≤ b → b < W'.heap.size → w'.heap[b]? = W'.heap[b]?) ∧ Own w (k + 1) w' p (recvS s t) := by
  have hok := h.ok
  obtain ⟨F, h1, h2, h3, h4, h5⟩ := h
  exact (show Own w k W p s from ⟨F, h1, h2, h3, h4, h5⟩).takO (w' := W') hb (recv_ok hok t) (Nat.le_trans (recv_lost s t) (by omega)) fun F' hF' => recv_any W' F' p s hF' t hok
theorem Own.clearO {w W W' : World} {k p : Nat} {s : Po} (h : Own w k W p s) (hb : Below W.heap.size W W') :
    Calls Try.prog 16 #[.pointer (some ⟨p, 0, none⟩)] W' fun e w' => e = .returned (.tuple #[]) ∧ (∀ b, W.heap.size ≤ b → b < W'.heap.size → w'.heap[b]? = W'.heap[b]?) ∧ Own w (k + 1) w' p (clearS s) := by
  have hok := h.ok
  exact h.takO (w' := W') hb (clear_ok hok) (Nat.zero_le _) fun F' hF' => (clear_any W' F' p s hF').mono fun e w' x => x
theorem Own.next {w W : World} {k p : Nat} {s : Po} (h : Own w k W p s) : Own w (k + 1) W p s := by
  obtain ⟨F, h1, h2, h3, h4, h5⟩ := h
  exact ⟨F, h1, h2, h3, h4, by omega⟩
/-- a port's terms of a kind -/
def Cf.of (c : Cf) (k : Int) : Cf := { c with kind := k }
set_option maxHeartbeats 4000000 in
theorem samples_no (w : World) (c : Cf) (v1 : Value) (hc : ¬ okC (c.of 0)) : Calls Try.prog 5 #[c.agg, v1] w fun e w' => e = .returned (.bool true) ∧ Below w.heap.size w w' := by
  have K7 : Hid (∀ W, Calls Try.prog 7 #[.agg #[.int .i64 0, .int .i64 c.frm, .int .i64 c.to, .int .i64 c.size, .int .i64 c.dep]] W fun e w' => e = .returned (.tuple #[.pointer none, .int .i64 140]) ∧ Below W.heap.size W w') := Lib.hid fun W => new_no W (c.of 0) hc
  have K21 : Hid (∀ W, Calls Try.prog 21 #[.agg #[.int .i64 0, .int .i64 c.frm, .int .i64 c.to, .int .i64 c.size, .int .i64 c.dep]] W fun e w' => e = .returned (.int .i64 140) ∧ Below W.heap.size W w') := Lib.hid fun W => by
    have := rcheck_any W (c.of 0)
    rw [show chkE (c.of 0) = 140 from if_neg hc] at this
    exact this
  have KF : Hid (∀ W, Calls Try.prog 10 #[] W fun e w' => e = .returned (.bool true) ∧ Below W.heap.size W w') := Lib.hid fixed_any
  have hB : Below w.heap.size w (w.alloc (.cells #[.int .i64 0, .int .i64 c.frm, .int .i64 c.to, .int .i64 c.size, .int .i64 c.dep] 23)) := (Below.refl _ w).alloc (Nat.le_refl _) _
  have HB := Lib.hid hB
  have HN := Lib.hid (block_new w (.cells #[.int .i64 0, .int .i64 c.frm, .int .i64 c.to, .int .i64 c.size, .int .i64 c.dep] 23))
  have HX : Hid (∀ W, Below (w.alloc (.cells #[.int .i64 0, .int .i64 c.frm, .int .i64 c.to, .int .i64 c.size, .int .i64 c.dep] 23)).heap.size (w.alloc (.cells #[.int .i64 0, .int .i64 c.frm, .int .i64 c.to, .int .i64 c.size, .int .i64 c.dep] 23)) W →
      W.cell? ⟨w.heap.size, 0, none⟩ = some (.int .i64 0) ∧ W.cell? ⟨w.heap.size, 1, none⟩ = some (.int .i64 c.frm) ∧ W.cell? ⟨w.heap.size, 2, none⟩ = some (.int .i64 c.to) ∧ W.cell? ⟨w.heap.size, 3, none⟩ = some (.int .i64 c.size) ∧ W.cell? ⟨w.heap.size, 4, none⟩ = some (.int .i64 c.dep)) := Lib.hid fun W hW => by
    have hp := (hW.block _ (block_lt HN.out)).trans HN.out
    refine ⟨?_, ?_, ?_, ?_, ?_⟩ <;> (rw [cell_of_row _ _ _ _ _ _ hp]; rfl)
  clear hB hc
  unfold Cf.agg
  go_enter Try.func5, Try.ntmps5
  go_wp2_with (first
    | (go_at_call 7; refine (K7.out (w.alloc (.cells #[.int .i64 0, .int .i64 c.frm, .int .i64 c.to, .int .i64 c.size, .int .i64 c.dep] 23))).mono ?_; rintro e w1 ⟨rfl, hb⟩; obtain ⟨x0, x1, x2, x3, x4⟩ := HX.out w1 hb; have H1 := Lib.hid (HB.out.trans (hb.mono HB.out.size)); clear hb)
    | (go_at_call 21; refine (K21.out w1).mono ?_; rintro e w2 ⟨rfl, hb⟩; have H2 := Lib.hid (H1.out.trans (hb.mono H1.out.size)); clear hb)
    | (go_at_call 10; refine (KF.out _).mono ?_; rintro e w3 ⟨rfl, hb⟩; have H3 := Lib.hid (H2.out.trans (hb.mono H2.out.size)); clear hb))
  go_ret
  exact ⟨rfl, H3.out⟩
/-- a sampling port's state against the last message -/
structure SamI (W1 : World) (k : Nat) (wr : World) (p : Nat) (sz : Int) (last : ByteArray) (at_ : Int) (b : Bool) (s : Po) : Prop where
  own : Own W1 k wr p s
  kind : s.kind = 0
  size : s.size = sz
  yes : b = true → s.l = [last] ∧ s.sent = at_
  no : b = false → s.l = []
theorem SamI.len {W1 wr : World} {k p : Nat} {sz : Int} {last : ByteArray} {at_ : Int} {b : Bool} {s : Po} (h : SamI W1 k wr p sz last at_ b s) : s.l.length = if b then 1 else 0 := by
  cases b with
  | true => rw [(h.yes rfl).1]; rfl
  | false => rw [h.no rfl]; rfl
theorem sam_send {s : Po} (k0 : s.kind = 0) {m : ByteArray} {t : Int} (e : sendE s m t = 0) : sendS s m t = { s with l := [m], sent := t } := by unfold sendS; rw [if_pos e, if_pos k0]
theorem sam_send_no {s : Po} {m : ByteArray} {t : Int} (e : ¬ sendE s m t = 0) : sendS s m t = s := by unfold sendS; rw [if_neg e]
theorem sam_recv {s : Po} (k0 : s.kind = 0) (t : Int) : recvS s t = s := by unfold recvS; rw [if_neg (fun x => x.2 k0)]
set_option maxRecDepth 100000 in
set_option maxHeartbeats 8000000 in
theorem samples_yes (w : World) (c : Cf) (hc : okC (c.of 0)) (G1 : Nat → Prop) (v1 : Value) (os : List Opn) (h1 : OpsV G1 w v1 os) (l1 : os.length ≤ 140737488355328) :
    Calls Try.prog 5 #[c.agg, v1] w fun e w' => e = .returned (.bool true) ∧ Below w.heap.size w w' := by
  obtain ⟨q1, cap1, rfl⟩ := h1.len
  obtain ⟨W1, hW1⟩ : ∃ W1, W1 = (w.alloc (.cells #[.int .i64 0, .int .i64 c.frm, .int .i64 c.to, .int .i64 c.size, .int .i64 c.dep] 23)) := ⟨_, rfl⟩
  have hB : Below w.heap.size w W1 := by rw [hW1]; exact (Below.refl _ w).alloc (Nat.le_refl _) _
  have hn : W1.heap[w.heap.size]? = some (.cells #[.int .i64 0, .int .i64 c.frm, .int .i64 c.to, .int .i64 c.size, .int .i64 c.dep] 23 (0, 0)) := by rw [hW1]; exact block_new _ _
  have K7 : Hid (Calls Try.prog 7 #[.agg #[.int .i64 0, .int .i64 c.frm, .int .i64 c.to, .int .i64 c.size, .int .i64 c.dep]] W1 fun e w2 => ∃ p, e = .returned (.tuple #[.pointer (some ⟨p, 0, none⟩), .int .i64 0]) ∧ Hid (SamI W1 0 w2 p c.size ByteArray.empty 0 false (newS (c.of 0)))) := Lib.hid ((own_new (c.of 0) hc (Below.refl _ W1)).mono fun e w2 ⟨p, x, y⟩ => ⟨p, x, Lib.hid ⟨y, rfl, rfl, fun h => (nomatch h), fun _ => rfl⟩⟩)
  have KF : Hid (∀ W, Calls Try.prog 10 #[] W fun e w' => e = .returned (.bool true) ∧ Below W.heap.size W w') := Lib.hid fixed_any
  have HB := Lib.hid hB
  have HN := Lib.hid hn
  rw [hW1] at K7
  obtain ⟨N, hN⟩ : ∃ N, N = os.length := ⟨_, rfl⟩
  rw [← hN] at h1 l1 ⊢
  have HO := Lib.hid h1
  have HW := Lib.hid hW1
  clear hB hn hc h1 hN
  rw [← hW1] at K7
  unfold Cf.agg
  have K7' : Hid (Calls Try.prog 7 #[.agg #[.int .i64 0, .int .i64 c.frm, .int .i64 c.to, .int .i64 c.size, .int .i64 c.dep]] (w.alloc (.cells #[.int .i64 0, .int .i64 c.frm, .int .i64 c.to, .int .i64 c.size, .int .i64 c.dep] 23)) fun e w2 => ∃ p, e = .returned (.tuple #[.pointer (some ⟨p, 0, none⟩), .int .i64 0]) ∧ Hid (SamI W1 0 w2 p c.size ByteArray.empty 0 false (newS (c.of 0)))) := by rw [← hW1]; exact K7
  clear K7 hW1
  go_enter Try.func5, Try.ntmps5
  go_wp2_with (first
    | (go_at_call 7; refine K7'.out.mono ?_; rintro e w2 ⟨p, rfl, H2⟩))
  clear K7'
  go_loopw [7, 8, 9, 10] (fun a b d i wr => ∃ (k : Nat) (last : ByteArray) (at_ : Int) (is : Bool) (s : Po), k ≤ N ∧ a = .string last ∧ b = .int .i64 at_ ∧ d = .bool is ∧ i = .int .i64 (k : Int) ∧ SamI W1 k wr p c.size last at_ is s) (fun _ _ _ i _ => N - (RowKit.intOf i).toNat)
  case atStart => exact ⟨0, _, _, _, _, Nat.zero_le _, rfl, rfl, rfl, rfl, H2.out⟩
  case round =>
    obtain ⟨k, last, at_, is, s, hk, rfl, rfl, rfl, rfl, hT⟩ := hrel
    by_cases a : k < N
    · have aI : (k : Int) < (N : Int) := by omega
      have aI0 : (0 : Int) ≤ (k : Int) := by omega
      have hbW : Below w.heap.size w wr := HB.out.trans (hT.own.bel.mono HB.out.size)
      obtain ⟨g, oo, rfl, glt, c0, c1, c2, c3⟩ := HO.out.at hbW a
      generalize (os.getD k o00).on = on at *
      generalize (os.getD k o00).kd = kd at *
      generalize (os.getD k o00).tk = t at *
      generalize (os.getD k o00).s = m at *
      -- what a call in the round leaves: the call's own block and the terms
      obtain ⟨wo, hwo⟩ : ∃ wo, wo = wr.alloc (.cells #[.int .i64 on, .int .i64 kd, .int .i64 t, .string m] 37) := ⟨_, rfl⟩
      have hbo : Below wr.heap.size wr wo := by rw [hwo]; exact (Below.refl _ wr).alloc (Nat.le_refl _) _
      have hrow : wo.heap[wr.heap.size]? = some (.cells #[.int .i64 on, .int .i64 kd, .int .i64 t, .string m] 37 (0, 0)) := by rw [hwo]; exact block_new _ _
      have hwsz : wo.heap.size = wr.heap.size + 1 := by rw [hwo, World.size_alloc]
      have cells : ∀ W, (∀ b, wr.heap.size ≤ b → b < wo.heap.size → W.heap[b]? = wo.heap[b]?) → Below W1.heap.size W1 W → W.cell? ⟨wr.heap.size, 0, none⟩ = some (.int .i64 on) ∧ W.cell? ⟨wr.heap.size, 1, none⟩ = some (.int .i64 kd) ∧ W.cell? ⟨wr.heap.size, 2, none⟩ = some (.int .i64 t) ∧ W.cell? ⟨wr.heap.size, 3, none⟩ = some (.string m) ∧ W.cell? ⟨w.heap.size, 3, none⟩ = some (.int .i64 c.size) := fun W hk hb => by
        have hp := (hk _ (Nat.le_refl _) (by omega)).trans hrow
        have hq := (hb.block _ (block_lt HN.out)).trans HN.out
        refine ⟨?_, ?_, ?_, ?_, ?_⟩ <;> first | (rw [cell_of_row _ _ _ _ _ _ hp]; rfl) | (rw [cell_of_row _ _ _ _ _ _ hq]; rfl)
      have KL : Hid (∀ W last' at' is' s', SamI W1 (k + 1) W p c.size last' at' is' s' → Calls Try.prog 20 #[.pointer (some ⟨p, 0, none⟩)] W fun e w' => e = .returned (.int .i64 (((if is' = true then 1 else 0 : Nat) : Nat) : Int)) ∧ W = w') := Lib.hid fun W last' at' is' s' h => by
        have := h.own.len
        rw [h.len] at this
        exact this
      have hok := hT.own.ok
      have hsz := hT.size
      by_cases k0 : kd = 0
      · subst k0
        by_cases tok : okT t
        · have t0 : 0 ≤ t := tok.1
          have t1 : t ≤ 1099511627776 := tok.2
          by_cases hm : s.size < (m.size : Int)
          · have hE : sendE s m t = 141 := by unfold sendE; rw [if_pos tok, if_pos hm]
            have hm2 : c.size < (m.size : Int) := by rw [← hsz]; exact hm
            have KC : Hid (Calls Try.prog 12 #[.pointer (some ⟨p, 0, none⟩), .string m, .int .i64 t] wo fun e w3 => e = .returned (.int .i64 141) ∧ (w3.cell? ⟨wr.heap.size, 0, none⟩ = some (.int .i64 on) ∧ w3.cell? ⟨wr.heap.size, 1, none⟩ = some (.int .i64 0) ∧ w3.cell? ⟨wr.heap.size, 2, none⟩ = some (.int .i64 t) ∧ w3.cell? ⟨wr.heap.size, 3, none⟩ = some (.string m) ∧ w3.cell? ⟨w.heap.size, 3, none⟩ = some (.int .i64 c.size)) ∧ Hid (SamI W1 (k + 1) w3 p c.size last at_ is s)) := Lib.hid (by
              have := hT.own.sendO (by omega) hbo m t
              rw [hE] at this
              exact this.mono fun e w3 ⟨x, y, z⟩ => ⟨x, cells w3 y z.bel, Lib.hid ⟨by rw [sam_send_no (by rw [hE]; decide)] at z; exact z, hT.kind, hT.size, hT.yes, hT.no⟩⟩)
            rw [hwo] at KC
            clear hT hbW hbo hrow hwsz cells hok hsz hwo hm hE
            go_wp2_with (first
              | (go_at_call 12; (with_reducible refine KC.out.mono ?_); rintro e1 w3 ⟨rfl, ⟨y0, y1, y2, y3, y4⟩, H3⟩)
              | (go_at_call 20; (with_reducible refine (KL.out _ _ _ _ _ H3.out).mono ?_); rintro e1 _ ⟨rfl, rfl⟩))
            all_goals exact ⟨⟨k + 1, last, at_, is, _, a, rfl, rfl, by first | rfl | simp [*], by simp, H3.out⟩, by simp [RowKit.intOf]; omega⟩
          · have hE : sendE s m t = 0 := by unfold sendE; rw [if_pos tok, if_neg hm]
            have KC : Hid (Calls Try.prog 12 #[.pointer (some ⟨p, 0, none⟩), .string m, .int .i64 t] wo fun e w3 => e = .returned (.int .i64 0) ∧ (w3.cell? ⟨wr.heap.size, 0, none⟩ = some (.int .i64 on) ∧ w3.cell? ⟨wr.heap.size, 1, none⟩ = some (.int .i64 0) ∧ w3.cell? ⟨wr.heap.size, 2, none⟩ = some (.int .i64 t) ∧ w3.cell? ⟨wr.heap.size, 3, none⟩ = some (.string m) ∧ w3.cell? ⟨w.heap.size, 3, none⟩ = some (.int .i64 c.size)) ∧ Hid (SamI W1 (k + 1) w3 p c.size m t true { s with l := [m], sent := t })) := Lib.hid (by
              have := hT.own.sendO (by omega) hbo m t
              rw [hE] at this
              exact this.mono fun e w3 ⟨x, y, z⟩ => ⟨x, cells w3 y z.bel, Lib.hid ⟨by rw [sam_send hT.kind hE] at z; exact z, hT.kind, hT.size, fun _ => ⟨rfl, rfl⟩, fun h => (nomatch h)⟩⟩)
            rw [hwo] at KC
            clear hT hbW hbo hrow hwsz cells hok hsz hwo hm hE
            go_wp2_with (first
              | (go_at_call 12; (with_reducible refine KC.out.mono ?_); rintro e1 w3 ⟨rfl, ⟨y0, y1, y2, y3, y4⟩, H3⟩)
              | (go_at_call 20; (with_reducible refine (KL.out _ _ _ _ _ H3.out).mono ?_); rintro e1 _ ⟨rfl, rfl⟩))
            all_goals exact ⟨⟨k + 1, m, t, true, _, a, rfl, rfl, by first | rfl | simp [*], by simp, H3.out⟩, by simp [RowKit.intOf]; omega⟩
        · by_cases t0 : 0 ≤ t
          · have t1 : 1099511627776 < t := by unfold okT at tok; omega
            have hE : sendE s m t = 1 := by unfold sendE; rw [if_neg tok]
            have KC : Hid (Calls Try.prog 12 #[.pointer (some ⟨p, 0, none⟩), .string m, .int .i64 t] wo fun e w3 => e = .returned (.int .i64 1) ∧ (w3.cell? ⟨wr.heap.size, 0, none⟩ = some (.int .i64 on) ∧ w3.cell? ⟨wr.heap.size, 1, none⟩ = some (.int .i64 0) ∧ w3.cell? ⟨wr.heap.size, 2, none⟩ = some (.int .i64 t) ∧ w3.cell? ⟨wr.heap.size, 3, none⟩ = some (.string m) ∧ w3.cell? ⟨w.heap.size, 3, none⟩ = some (.int .i64 c.size)) ∧ Hid (SamI W1 (k + 1) w3 p c.size last at_ is s)) := Lib.hid (by
              have := hT.own.sendO (by omega) hbo m t
              rw [hE] at this
              exact this.mono fun e w3 ⟨x, y, z⟩ => ⟨x, cells w3 y z.bel, Lib.hid ⟨by rw [sam_send_no (by rw [hE]; decide)] at z; exact z, hT.kind, hT.size, hT.yes, hT.no⟩⟩)
            rw [hwo] at KC
            clear hT hbW hbo hrow hwsz cells hok hsz hwo hE
            go_wp2_with (first
              | (go_at_call 12; (with_reducible refine KC.out.mono ?_); rintro e1 w3 ⟨rfl, ⟨y0, y1, y2, y3, y4⟩, H3⟩)
              | (go_at_call 20; (with_reducible refine (KL.out _ _ _ _ _ H3.out).mono ?_); rintro e1 _ ⟨rfl, rfl⟩))
            all_goals exact ⟨⟨k + 1, last, at_, is, _, a, rfl, rfl, by first | rfl | simp [*], by simp, H3.out⟩, by simp [RowKit.intOf]; omega⟩
          · have t1 : t < 0 := by omega
            have hE : sendE s m t = 1 := by unfold sendE; rw [if_neg tok]
            have KC : Hid (Calls Try.prog 12 #[.pointer (some ⟨p, 0, none⟩), .string m, .int .i64 t] wo fun e w3 => e = .returned (.int .i64 1) ∧ (w3.cell? ⟨wr.heap.size, 0, none⟩ = some (.int .i64 on) ∧ w3.cell? ⟨wr.heap.size, 1, none⟩ = some (.int .i64 0) ∧ w3.cell? ⟨wr.heap.size, 2, none⟩ = some (.int .i64 t) ∧ w3.cell? ⟨wr.heap.size, 3, none⟩ = some (.string m) ∧ w3.cell? ⟨w.heap.size, 3, none⟩ = some (.int .i64 c.size)) ∧ Hid (SamI W1 (k + 1) w3 p c.size last at_ is s)) := Lib.hid (by
              have := hT.own.sendO (by omega) hbo m t
              rw [hE] at this
              exact this.mono fun e w3 ⟨x, y, z⟩ => ⟨x, cells w3 y z.bel, Lib.hid ⟨by rw [sam_send_no (by rw [hE]; decide)] at z; exact z, hT.kind, hT.size, hT.yes, hT.no⟩⟩)
            rw [hwo] at KC
            clear hT hbW hbo hrow hwsz cells hok hsz hwo hE
            go_wp2_with (first
              | (go_at_call 12; (with_reducible refine KC.out.mono ?_); rintro e1 w3 ⟨rfl, ⟨y0, y1, y2, y3, y4⟩, H3⟩)
              | (go_at_call 20; (with_reducible refine (KL.out _ _ _ _ _ H3.out).mono ?_); rintro e1 _ ⟨rfl, rfl⟩))
            all_goals exact ⟨⟨k + 1, last, at_, is, _, a, rfl, rfl, by first | rfl | simp [*], by simp, H3.out⟩, by simp [RowKit.intOf]; omega⟩
      · have k0b : (kd == 0) = false := by simpa using k0
        by_cases k1 : kd = 1
        · subst k1
          clear k0
          by_cases tok : okT t
          · have t0 : 0 ≤ t := tok.1
            have t1 : t ≤ 1099511627776 := tok.2
            cases his : is with
            | true =>
              subst his
              obtain ⟨hl, hs⟩ := hT.yes rfl
              have hE : recvE s t = 0 := by unfold recvE; rw [if_pos tok, if_neg (by rw [hl]; simp)]
              have hM : recvM s t = last := by unfold recvM; rw [if_pos hE, hl]; rfl
              have hN : recvN s t = max 0 (t - at_) := by unfold recvN; rw [if_pos hE, if_pos hT.kind, hs, Int.max_comm]
              have ha : okT at_ := by rw [← hs]; exact hok.sent
              have q1 : IntKind.i64.wrap (t - at_) = t - at_ := IntWalk.i64_in _ (by unfold okT at ha; omega)
              have q2 : wrap64 (t - at_) = t - at_ := w64 (by unfold okT at ha; omega)
              have KC : Hid (Calls Try.prog 14 #[.pointer (some ⟨p, 0, none⟩), .int .i64 t] wo fun e w3 => e = .returned (.tuple #[.string last, .int .i64 (max 0 (t - at_)), .int .i64 0]) ∧ (w3.cell? ⟨wr.heap.size, 0, none⟩ = some (.int .i64 on) ∧ w3.cell? ⟨wr.heap.size, 1, none⟩ = some (.int .i64 1) ∧ w3.cell? ⟨wr.heap.size, 2, none⟩ = some (.int .i64 t) ∧ w3.cell? ⟨wr.heap.size, 3, none⟩ = some (.string m) ∧ w3.cell? ⟨w.heap.size, 3, none⟩ = some (.int .i64 c.size)) ∧ Hid (SamI W1 (k + 1) w3 p c.size last at_ true s)) := Lib.hid (by
                have := hT.own.recvO hbo t
                unfold recvV at this
                rw [hM, hN, hE] at this
                exact this.mono fun e w3 ⟨x, y, z⟩ => ⟨x, cells w3 y z.bel, Lib.hid ⟨by rw [sam_recv hT.kind] at z; exact z, hT.kind, hT.size, hT.yes, hT.no⟩⟩)
              rw [hwo] at KC
              clear hT hbW hbo hrow hwsz cells hok hsz hwo hl hs hE hM hN ha
              go_wp2_with (first
                | (go_at_call 14; (with_reducible refine KC.out.mono ?_); rintro e1 w3 ⟨rfl, ⟨y0, y1, y2, y3, y4⟩, H3⟩)
                | (go_at_call 20; (with_reducible refine (KL.out _ _ _ _ _ H3.out).mono ?_); rintro e1 _ ⟨rfl, rfl⟩))
              all_goals exact ⟨⟨k + 1, last, at_, true, _, a, rfl, rfl, by first | rfl | simp [*], by simp, H3.out⟩, by simp [RowKit.intOf]; omega⟩
            | false =>
              subst his
              have hl := hT.no rfl
              have hE : recvE s t = 142 := by unfold recvE; rw [if_pos tok, if_pos hl]
              have hM : recvM s t = ByteArray.empty := by unfold recvM; rw [if_neg (by rw [hE]; decide)]
              have hN : recvN s t = 0 := by unfold recvN; rw [if_neg (by rw [hE]; decide)]
              have KC : Hid (Calls Try.prog 14 #[.pointer (some ⟨p, 0, none⟩), .int .i64 t] wo fun e w3 => e = .returned (.tuple #[.string ByteArray.empty, .int .i64 0, .int .i64 142]) ∧ (w3.cell? ⟨wr.heap.size, 0, none⟩ = some (.int .i64 on) ∧ w3.cell? ⟨wr.heap.size, 1, none⟩ = some (.int .i64 1) ∧ w3.cell? ⟨wr.heap.size, 2, none⟩ = some (.int .i64 t) ∧ w3.cell? ⟨wr.heap.size, 3, none⟩ = some (.string m) ∧ w3.cell? ⟨w.heap.size, 3, none⟩ = some (.int .i64 c.size)) ∧ Hid (SamI W1 (k + 1) w3 p c.size last at_ false s)) := Lib.hid (by
                have := hT.own.recvO hbo t
                unfold recvV at this
                rw [hM, hN, hE] at this
                exact this.mono fun e w3 ⟨x, y, z⟩ => ⟨x, cells w3 y z.bel, Lib.hid ⟨by rw [sam_recv hT.kind] at z; exact z, hT.kind, hT.size, hT.yes, hT.no⟩⟩)
              rw [hwo] at KC
              clear hT hbW hbo hrow hwsz cells hok hsz hwo hl hE hM hN
              go_wp2_with (first
                | (go_at_call 14; (with_reducible refine KC.out.mono ?_); rintro e1 w3 ⟨rfl, ⟨y0, y1, y2, y3, y4⟩, H3⟩)
                | (go_at_call 20; (with_reducible refine (KL.out _ _ _ _ _ H3.out).mono ?_); rintro e1 _ ⟨rfl, rfl⟩))
              all_goals exact ⟨⟨k + 1, last, at_, false, _, a, rfl, rfl, by first | rfl | simp [*], by simp, H3.out⟩, by simp [RowKit.intOf]; omega⟩
          · by_cases t0 : 0 ≤ t
            · have t1 : 1099511627776 < t := by unfold okT at tok; omega
              have hE : recvE s t = 1 := by unfold recvE; rw [if_neg tok]
              have hM : recvM s t = ByteArray.empty := by unfold recvM; rw [if_neg (by rw [hE]; decide)]
              have hN : recvN s t = 0 := by unfold recvN; rw [if_neg (by rw [hE]; decide)]
              have KC : Hid (Calls Try.prog 14 #[.pointer (some ⟨p, 0, none⟩), .int .i64 t] wo fun e w3 => e = .returned (.tuple #[.string ByteArray.empty, .int .i64 0, .int .i64 1]) ∧ (w3.cell? ⟨wr.heap.size, 0, none⟩ = some (.int .i64 on) ∧ w3.cell? ⟨wr.heap.size, 1, none⟩ = some (.int .i64 1) ∧ w3.cell? ⟨wr.heap.size, 2, none⟩ = some (.int .i64 t) ∧ w3.cell? ⟨wr.heap.size, 3, none⟩ = some (.string m) ∧ w3.cell? ⟨w.heap.size, 3, none⟩ = some (.int .i64 c.size)) ∧ Hid (SamI W1 (k + 1) w3 p c.size last at_ is s)) := Lib.hid (by
                have := hT.own.recvO hbo t
                unfold recvV at this
                rw [hM, hN, hE] at this
                exact this.mono fun e w3 ⟨x, y, z⟩ => ⟨x, cells w3 y z.bel, Lib.hid ⟨by rw [sam_recv hT.kind] at z; exact z, hT.kind, hT.size, hT.yes, hT.no⟩⟩)
              rw [hwo] at KC
              clear hT hbW hbo hrow hwsz cells hok hsz hwo hE hM hN
              go_wp2_with (first
                | (go_at_call 14; (with_reducible refine KC.out.mono ?_); rintro e1 w3 ⟨rfl, ⟨y0, y1, y2, y3, y4⟩, H3⟩)
                | (go_at_call 20; (with_reducible refine (KL.out _ _ _ _ _ H3.out).mono ?_); rintro e1 _ ⟨rfl, rfl⟩))
              all_goals exact ⟨⟨k + 1, last, at_, is, _, a, rfl, rfl, by first | rfl | simp [*], by simp, H3.out⟩, by simp [RowKit.intOf]; omega⟩
            · have t1 : t < 0 := by omega
              have hE : recvE s t = 1 := by unfold recvE; rw [if_neg tok]
              have hM : recvM s t = ByteArray.empty := by unfold recvM; rw [if_neg (by rw [hE]; decide)]
              have hN : recvN s t = 0 := by unfold recvN; rw [if_neg (by rw [hE]; decide)]
              have KC : Hid (Calls Try.prog 14 #[.pointer (some ⟨p, 0, none⟩), .int .i64 t] wo fun e w3 => e = .returned (.tuple #[.string ByteArray.empty, .int .i64 0, .int .i64 1]) ∧ (w3.cell? ⟨wr.heap.size, 0, none⟩ = some (.int .i64 on) ∧ w3.cell? ⟨wr.heap.size, 1, none⟩ = some (.int .i64 1) ∧ w3.cell? ⟨wr.heap.size, 2, none⟩ = some (.int .i64 t) ∧ w3.cell? ⟨wr.heap.size, 3, none⟩ = some (.string m) ∧ w3.cell? ⟨w.heap.size, 3, none⟩ = some (.int .i64 c.size)) ∧ Hid (SamI W1 (k + 1) w3 p c.size last at_ is s)) := Lib.hid (by
                have := hT.own.recvO hbo t
                unfold recvV at this
                rw [hM, hN, hE] at this
                exact this.mono fun e w3 ⟨x, y, z⟩ => ⟨x, cells w3 y z.bel, Lib.hid ⟨by rw [sam_recv hT.kind] at z; exact z, hT.kind, hT.size, hT.yes, hT.no⟩⟩)
              rw [hwo] at KC
              clear hT hbW hbo hrow hwsz cells hok hsz hwo hE hM hN
              go_wp2_with (first
                | (go_at_call 14; (with_reducible refine KC.out.mono ?_); rintro e1 w3 ⟨rfl, ⟨y0, y1, y2, y3, y4⟩, H3⟩)
                | (go_at_call 20; (with_reducible refine (KL.out _ _ _ _ _ H3.out).mono ?_); rintro e1 _ ⟨rfl, rfl⟩))
              all_goals exact ⟨⟨k + 1, last, at_, is, _, a, rfl, rfl, by first | rfl | simp [*], by simp, H3.out⟩, by simp [RowKit.intOf]; omega⟩
        · have k1b : (kd == 1) = false := by simpa using k1
          by_cases k2 : kd = 2
          · subst k2
            clear k0 k1
            by_cases tok : okT t
            · have t0 : 0 ≤ t := tok.1
              have t1 : t ≤ 1099511627776 := tok.2
              have KC : Hid (Calls Try.prog 16 #[.pointer (some ⟨p, 0, none⟩)] wo fun e w3 => e = .returned (.tuple #[]) ∧ (w3.cell? ⟨wr.heap.size, 0, none⟩ = some (.int .i64 on) ∧ w3.cell? ⟨wr.heap.size, 1, none⟩ = some (.int .i64 2) ∧ w3.cell? ⟨wr.heap.size, 2, none⟩ = some (.int .i64 t) ∧ w3.cell? ⟨wr.heap.size, 3, none⟩ = some (.string m) ∧ w3.cell? ⟨w.heap.size, 3, none⟩ = some (.int .i64 c.size)) ∧ Hid (SamI W1 (k + 1) w3 p c.size last at_ false (clearS s))) := Lib.hid (hT.own.clearO hbo |>.mono fun e w3 ⟨x, y, z⟩ => ⟨x, cells w3 y z.bel, Lib.hid ⟨z, hT.kind, hT.size, fun h => (nomatch h), fun _ => rfl⟩⟩)
              rw [hwo] at KC
              clear hT hbW hbo hrow hwsz cells hok hsz hwo
              go_wp2_with (first
                | (go_at_call 16; (with_reducible refine KC.out.mono ?_); rintro e1 w3 ⟨rfl, ⟨y0, y1, y2, y3, y4⟩, H3⟩)
                | (go_at_call 20; (with_reducible refine (KL.out _ _ _ _ _ H3.out).mono ?_); rintro e1 _ ⟨rfl, rfl⟩))
              all_goals exact ⟨⟨k + 1, last, at_, false, _, a, rfl, rfl, by first | rfl | simp [*], by simp, H3.out⟩, by simp [RowKit.intOf]; omega⟩
            · by_cases t0 : 0 ≤ t
              · have t1 : 1099511627776 < t := by unfold okT at tok; omega
                have KC : Hid (Calls Try.prog 16 #[.pointer (some ⟨p, 0, none⟩)] wo fun e w3 => e = .returned (.tuple #[]) ∧ (w3.cell? ⟨wr.heap.size, 0, none⟩ = some (.int .i64 on) ∧ w3.cell? ⟨wr.heap.size, 1, none⟩ = some (.int .i64 2) ∧ w3.cell? ⟨wr.heap.size, 2, none⟩ = some (.int .i64 t) ∧ w3.cell? ⟨wr.heap.size, 3, none⟩ = some (.string m) ∧ w3.cell? ⟨w.heap.size, 3, none⟩ = some (.int .i64 c.size)) ∧ Hid (SamI W1 (k + 1) w3 p c.size last at_ false (clearS s))) := Lib.hid (hT.own.clearO hbo |>.mono fun e w3 ⟨x, y, z⟩ => ⟨x, cells w3 y z.bel, Lib.hid ⟨z, hT.kind, hT.size, fun h => (nomatch h), fun _ => rfl⟩⟩)
                rw [hwo] at KC
                clear hT hbW hbo hrow hwsz cells hok hsz hwo
                go_wp2_with (first
                  | (go_at_call 16; (with_reducible refine KC.out.mono ?_); rintro e1 w3 ⟨rfl, ⟨y0, y1, y2, y3, y4⟩, H3⟩)
                  | (go_at_call 20; (with_reducible refine (KL.out _ _ _ _ _ H3.out).mono ?_); rintro e1 _ ⟨rfl, rfl⟩))
                all_goals exact ⟨⟨k + 1, last, at_, false, _, a, rfl, rfl, by first | rfl | simp [*], by simp, H3.out⟩, by simp [RowKit.intOf]; omega⟩
              · have t1 : t < 0 := by omega
                have KC : Hid (Calls Try.prog 16 #[.pointer (some ⟨p, 0, none⟩)] wo fun e w3 => e = .returned (.tuple #[]) ∧ (w3.cell? ⟨wr.heap.size, 0, none⟩ = some (.int .i64 on) ∧ w3.cell? ⟨wr.heap.size, 1, none⟩ = some (.int .i64 2) ∧ w3.cell? ⟨wr.heap.size, 2, none⟩ = some (.int .i64 t) ∧ w3.cell? ⟨wr.heap.size, 3, none⟩ = some (.string m) ∧ w3.cell? ⟨w.heap.size, 3, none⟩ = some (.int .i64 c.size)) ∧ Hid (SamI W1 (k + 1) w3 p c.size last at_ false (clearS s))) := Lib.hid (hT.own.clearO hbo |>.mono fun e w3 ⟨x, y, z⟩ => ⟨x, cells w3 y z.bel, Lib.hid ⟨z, hT.kind, hT.size, fun h => (nomatch h), fun _ => rfl⟩⟩)
                rw [hwo] at KC
                clear hT hbW hbo hrow hwsz cells hok hsz hwo
                go_wp2_with (first
                  | (go_at_call 16; (with_reducible refine KC.out.mono ?_); rintro e1 w3 ⟨rfl, ⟨y0, y1, y2, y3, y4⟩, H3⟩)
                  | (go_at_call 20; (with_reducible refine (KL.out _ _ _ _ _ H3.out).mono ?_); rintro e1 _ ⟨rfl, rfl⟩))
                all_goals exact ⟨⟨k + 1, last, at_, false, _, a, rfl, rfl, by first | rfl | simp [*], by simp, H3.out⟩, by simp [RowKit.intOf]; omega⟩
          · have k2b : (kd == 2) = false := by simpa using k2
            clear k0 k1 k2
            by_cases tok : okT t
            · have t0 : 0 ≤ t := tok.1
              have t1 : t ≤ 1099511627776 := tok.2
              have HW3 : Hid (SamI W1 (k + 1) wo p c.size last at_ is s) := Lib.hid ⟨(hT.own.below hbo).next, hT.kind, hT.size, hT.yes, hT.no⟩
              rw [hwo] at HW3
              clear hT hbW hbo hrow hwsz cells hok hsz hwo
              go_wp2_with (first
                | (go_at_call 20; (with_reducible refine (KL.out _ _ _ _ _ HW3.out).mono ?_); rintro e1 _ ⟨rfl, rfl⟩))
              all_goals exact ⟨⟨k + 1, last, at_, is, _, a, rfl, rfl, by first | rfl | simp [*], by simp, HW3.out⟩, by simp [RowKit.intOf]; omega⟩
            · by_cases t0 : 0 ≤ t
              · have t1 : 1099511627776 < t := by unfold okT at tok; omega
                have HW3 : Hid (SamI W1 (k + 1) wo p c.size last at_ is s) := Lib.hid ⟨(hT.own.below hbo).next, hT.kind, hT.size, hT.yes, hT.no⟩
                rw [hwo] at HW3
                clear hT hbW hbo hrow hwsz cells hok hsz hwo
                go_wp2_with (first
                  | (go_at_call 20; (with_reducible refine (KL.out _ _ _ _ _ HW3.out).mono ?_); rintro e1 _ ⟨rfl, rfl⟩))
                all_goals exact ⟨⟨k + 1, last, at_, is, _, a, rfl, rfl, by first | rfl | simp [*], by simp, HW3.out⟩, by simp [RowKit.intOf]; omega⟩
              · have t1 : t < 0 := by omega
                have HW3 : Hid (SamI W1 (k + 1) wo p c.size last at_ is s) := Lib.hid ⟨(hT.own.below hbo).next, hT.kind, hT.size, hT.yes, hT.no⟩
                rw [hwo] at HW3
                clear hT hbW hbo hrow hwsz cells hok hsz hwo
                go_wp2_with (first
                  | (go_at_call 20; (with_reducible refine (KL.out _ _ _ _ _ HW3.out).mono ?_); rintro e1 _ ⟨rfl, rfl⟩))
                all_goals exact ⟨⟨k + 1, last, at_, is, _, a, rfl, rfl, by first | rfl | simp [*], by simp, HW3.out⟩, by simp [RowKit.intOf]; omega⟩
    · obtain rfl : k = N := by omega
      have HE := Lib.hid (HB.out.trans (hT.own.bel.mono HB.out.size))
      clear hT
      go_wp2_with (go_at_call 10; refine (KF.out _).mono ?_; rintro e1 w4 ⟨rfl, hb⟩; have H4 := Lib.hid (HE.out.trans (hb.mono HE.out.size)); clear hb)
      go_ret
      exact ⟨rfl, H4.out⟩
theorem samples_any (w : World) (c : Cf) (G1 : Nat → Prop) (v1 : Value) (os : List Opn) (h1 : OpsV G1 w v1 os) (l1 : os.length ≤ 140737488355328) :
    Calls Try.prog 5 #[c.agg, v1] w fun e w' => e = .returned (.bool true) ∧ Below w.heap.size w w' := by
  by_cases hc : okC (c.of 0)
  · exact samples_yes w c hc G1 v1 os h1 l1
  · exact samples_no w c v1 hc
end Go.Proofs.Ytolcdfkkdhkpfaa
