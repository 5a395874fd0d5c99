/- A disk behind writes and flushes: what the call returns. Conditions: sizes that a machine holds. -/
import Derived.Test.YtcmhpkeighenaaaLfn
import Derived.Test.YtcmhpkeighenaaaFlu
namespace Go.Proofs.Ytcmhpkeighenaaa
open Go.RowKit Go.Maps
set_option linter.unusedVariables false

/-- a disk of so many bytes, with power, nothing armed -/
structure Calm (n : Nat) (S : St) : Prop where
  ok : S.ok
  dead : S.dead = false
  armed : S.armed = 0
  len : S.safe.length = n
theorem Calm.change {n : Nat} {S : St} (h : Calm n S) : S.change = (S, 0) := by unfold St.change; rw [if_pos h.armed]
theorem Calm.write {n : Nat} {S : St} (h : Calm n S) (i : Int) (s : Bts) : Calm n (S.write i s).1 := by
  refine ⟨(h.ok.write i s).1, ?_, ?_, ?_⟩ <;> unfold St.write <;> rw [if_neg (by rw [h.dead]; decide)] <;> split <;> try (first | exact h.dead | exact h.armed | exact h.len)
  all_goals
    split
    · first | exact h.dead | exact h.armed | exact h.len
    · unfold St.change
      rw [if_pos (show (S.put i.toNat s).armed = 0 from h.armed)]
      first | exact h.dead | exact h.armed | exact h.len
theorem Calm.flush {n : Nat} {S : St} (h : Calm n S) (f m : Int) : Calm n (S.flush f m).1 := by
  have hok := (h.ok.flush f m).1
  have hl : ∀ a b, (S.calm a b).safe.length = n := fun a b => by rw [S.calm_len h.ok, ← h.len, h.ok.len]
  refine ⟨hok, ?_, ?_, ?_⟩ <;> unfold St.flush <;> rw [if_neg (by rw [h.dead]; decide)] <;> split <;> try (first | exact h.dead | exact h.armed | exact h.len)
  all_goals
    rw [h.change]
    first | exact h.dead | exact h.armed | exact hl _ _
theorem Calm.new {s : ByteArray} (h : ¬ Bad s) : Calm s.size (newS s.data.toList) := by
  unfold Bad at h
  exact ⟨St.ok.new (by rw [baList]; omega) (by rw [baList]; omega) (by rw [baList]; omega), rfl, rfl, baList s⟩
/-- a disk whose blocks all lie above B -/
def At (w : World) (B p : Nat) (S : St) : Prop := ∃ F, IsD w F p S ∧ ∀ k, F k → B ≤ k ∧ k < w.heap.size
theorem At.of_to {w w' : World} {B p : Nat} {S S' : St} {F : Nat → Prop} (hF : ∀ k, F k → B ≤ k ∧ k < w.heap.size) (hB : B ≤ w.heap.size) (h : To F w w' p S') : At w' B p S' ∧ Below B w w' := by
  obtain ⟨F', d, g, c⟩ := h
  exact ⟨⟨F', d, fun k hk => by rcases g k hk with q | q; exact ⟨(hF k q).1, Nat.lt_of_lt_of_le (hF k q).2 c.size⟩; exact ⟨by omega, q.2⟩⟩, c.below hB (fun k hk => (hF k hk).1)⟩
theorem At.below {w w' : World} {B p : Nat} {S : St} (h : At w B p S) (hb : Below w.heap.size w w') : At w' B p S := by
  obtain ⟨F, d, g⟩ := h
  exact ⟨F, d.below hb, fun k hk => ⟨(g k hk).1, Nat.lt_of_lt_of_le (g k hk).2 hb.size⟩⟩
theorem write_at (B p : Nat) (S : St) (w : World) (h : At w B p S) (hB : B ≤ w.heap.size) (i : Int) (s : ByteArray) (hi : In64 i) (hsz : s.size ≤ 281474976710656) :
    Calls Try.prog 26 #[.pointer (some ⟨p, 0, none⟩), .int .i64 i, .string s] w fun e w' => e = .returned (.int .i64 (S.write i s.data.toList).2) ∧ At w' B p (S.write i s.data.toList).1 ∧ Below B w w' := by
  obtain ⟨F, d, g⟩ := h
  exact (write_any F p S w d i s hi hsz).mono fun e w' q => ⟨q.1, At.of_to (S := S) g hB q.2⟩
theorem flush_at (B p : Nat) (S : St) (w : World) (h : At w B p S) (hB : B ≤ w.heap.size) (f n : Int) (hf : In64 f) (hn : In64 n) :
    Calls Try.prog 23 #[.pointer (some ⟨p, 0, none⟩), .int .i64 f, .int .i64 n] w fun e w' => e = .returned (.int .i64 (S.flush f n).2) ∧ At w' B p (S.flush f n).1 ∧ Below B w w' := by
  obtain ⟨F, d, g⟩ := h
  exact (flush_any F p S w d (fun k hk => (g k hk).2) f n hf hn).mono fun e w' q => ⟨q.1, At.of_to (S := S) g hB q.2⟩
theorem crash_at (B p : Nat) (S : St) (w : World) (h : At w B p S) (hB : B ≤ w.heap.size) (G : Nat → Prop) (v : Value) (ch : List Int) (hcv : CV w G v ch) :
    Calls Try.prog 22 #[.pointer (some ⟨p, 0, none⟩), v] w fun e w' => e = .returned (.int .i64 (S.crash ch).2) ∧ At w' B p (S.crash ch).1 ∧ Below B w w' := by
  obtain ⟨F, d, g⟩ := h
  exact (crash_any F p S w d G v ch hcv).mono fun e w' q => ⟨q.1, At.of_to (S := S) g hB q.2⟩
theorem revive_at (B p : Nat) (S : St) (w : World) (h : At w B p S) (hB : B ≤ w.heap.size) :
    Calls Try.prog 24 #[.pointer (some ⟨p, 0, none⟩)] w fun e w' => e = .returned (.tuple #[]) ∧ At w' B p S.revive ∧ Below B w w' := by
  obtain ⟨F, d, g⟩ := h
  exact (revive_any F p S w d).mono fun e w' q => ⟨q.1, At.of_to (S := S) g hB ⟨F, q.2.1, Gr.refl _ _ _, q.2.2.1⟩⟩
theorem arm_at (B p : Nat) (S : St) (w : World) (h : At w B p S) (hB : B ≤ w.heap.size) (n : Int) (hn : In64 n) (G : Nat → Prop) (v : Value) (ch : List Int) (hcv : CV w G v ch) (hG : ∀ k, G k → k < B) (hci : ∀ x ∈ ch, In64 x) :
    Calls Try.prog 28 #[.pointer (some ⟨p, 0, none⟩), .int .i64 n, v] w fun e w' => e = .returned (.int .i64 (S.arm n ch).2) ∧ At w' B p (S.arm n ch).1 ∧ Below B w w' := by
  obtain ⟨F, d, g⟩ := h
  exact (arm_any F p S w d (fun k hk => (g k hk).2) n hn G v ch hcv (fun k hk => by have := (g p d.lt.2).1; have := hG k hk; omega) hci).mono fun e w' q => ⟨q.1, At.of_to (S := S) g hB q.2⟩
theorem new_at (s : ByteArray) (w : World) (hs : s.size ≤ 140737488355328) (h : ¬ Bad s) :
    Calls Try.prog 8 #[.string s] w fun e w' => ∃ p, e = .returned (.tuple #[.pointer (some ⟨p, 0, none⟩), .int .i64 0]) ∧ At w' w.heap.size p (newS s.data.toList) ∧ Below w.heap.size w w' := by
  refine (new_any s w hs).mono fun e w' q => ?_
  unfold Bad at h
  rw [if_neg h] at q
  obtain ⟨hb, F, p, he, hd, hF⟩ := q
  exact ⟨p, he, ⟨F, hd, hF⟩, hb⟩
theorem new_bad (s : ByteArray) (w : World) (hs : s.size ≤ 140737488355328) (h : Bad s) :
    Calls Try.prog 8 #[.string s] w fun e w' => e = .returned (.tuple #[.pointer none, .int .i64 70]) ∧ Below w.heap.size w w' := by
  refine (new_any s w hs).mono fun e w' q => ?_
  unfold Bad at h
  rw [if_pos h] at q
  exact ⟨q.2, q.1⟩
theorem clone_at (B p : Nat) (S : St) (w : World) (h : At w B p S) :
    Calls Try.prog 12 #[.pointer (some ⟨p, 0, none⟩)] w fun e w' => ∃ p', e = .returned (.pointer (some ⟨p', 0, none⟩)) ∧ At w' w.heap.size p' S ∧ Below w.heap.size w w' := by
  obtain ⟨F, d, g⟩ := h
  exact (clone_any F p S w d).mono fun e w' ⟨F', p', he, hd, hF, hb⟩ => ⟨p', he, ⟨F', hd, hF⟩, hb⟩
set_option maxRecDepth 20000 in
set_option maxHeartbeats 1000000 in
theorem made_bad (s : ByteArray) (v : Value) (w : World) (hs : s.size ≤ 140737488355328) (h : Bad s) : Calls Try.prog 16 #[.string s, v] w fun e w' => e = .returned (.pointer none) ∧ Below w.heap.size w w' := by
  have k := new_bad s w hs h
  clear h hs
  go_enter Try.func16, Try.ntmps16
  go_wp2_with (go_at_call 8; refine k.mono ?_; rintro e w' ⟨rfl, hb⟩)
  go_ret
  exact ⟨rfl, hb⟩
set_option maxRecDepth 20000 in
set_option maxHeartbeats 4000000 in
theorem made_any (s : ByteArray) (v : Value) (l : List Opr) (w : World) (hs : s.size ≤ 140737488355328) (h : ¬ Bad s) (hsc : Script w v l) :
    Calls Try.prog 16 #[.string s, v] w fun e w' => ∃ p S, e = .returned (.pointer (some ⟨p, 0, none⟩)) ∧ At w' w.heap.size p S ∧ Calm s.size S ∧ Below w.heap.size w w' := by
  have k := new_at s w hs h
  have hc0 := Calm.new h
  obtain ⟨q, cap, rfl, hle, hll, hops⟩ := hsc
  obtain ⟨B, hB⟩ : ∃ B, B = w.heap.size := ⟨_, rfl⟩
  obtain ⟨n, hn⟩ : ∃ n, n = s.size := ⟨_, rfl⟩
  obtain ⟨L, hL⟩ : ∃ L, L = l.length := ⟨_, rfl⟩
  rw [← hB] at k ⊢
  rw [← hn] at hc0 ⊢
  rw [← hL] at hle hll ⊢
  have HC0 := Lib.hid hc0
  have HOP := Lib.hid hops
  have HB := Lib.hid (And.intro hB hL)
  clear hc0 hops hB hL hs h hn
  go_enter Try.func16, Try.ntmps16
  go_wp2_with (go_at_call 8; refine k.mono ?_; rintro e w1 ⟨p, rfl, hat, hbel⟩; have HA := Lib.hid (And.intro hat hbel); clear hat hbel)
  clear k
  go_loopw [7] (fun i wr => ∃ (k : Nat) (S : St), k ≤ L ∧ i = .int .i64 (k : Int) ∧ At wr B p S ∧ Calm n S ∧ Below B w wr) (fun i _ => L - (intOf i).toNat)
  case atStart => exact ⟨0, _, Nat.zero_le _, rfl, HA.out.1, HC0.out, HA.out.2⟩
  case round =>
    obtain ⟨k, S, hk, rfl, hat, hcalm, hbel⟩ := hrel
    by_cases hlt : k < L
    · have hki : (k : Int) < (L : Int) := by omega
      obtain ⟨o, ho⟩ : ∃ o, o = l[k]'(by rw [← HB.out.2]; exact hlt) := ⟨_, rfl⟩
      obtain ⟨hok, b, off, hq, hbs, hcell⟩ := HOP.out k (by rw [← HB.out.2]; exact hlt)
      rw [← ho] at hok hcell
      subst hq
      obtain ⟨O, hO⟩ : ∃ O, O = off + k * 7 := ⟨_, rfl⟩
      rw [← hO] at hcell
      have HCE : Hid (∀ W, Below B w W → W.cell? ⟨b, O, none⟩ = some (.int .i64 o.on) ∧ W.cell? ⟨b, O + 1, none⟩ = some (.int .i64 o.kind) ∧ W.cell? ⟨b, O + 2, none⟩ = some (.int .i64 o.a) ∧ W.cell? ⟨b, O + 3, none⟩ = some (.int .i64 o.b) ∧ W.cell? ⟨b, O + 4, none⟩ = some (.int .u8 o.c) ∧ W.cell? ⟨b, O + 5, none⟩ = some (.string o.s) ∧ W.cell? ⟨b, O + 6, none⟩ = some o.cv) := fun W hW => by
        have hW' : Below w.heap.size w W := by rw [← HB.out.1]; exact hW
        exact ⟨cell_below (hcell 0 _ rfl) hW', cell_below (hcell 1 _ rfl) hW', cell_below (hcell 2 _ rfl) hW', cell_below (hcell 3 _ rfl) hW', cell_below (hcell 4 _ rfl) hW', cell_below (hcell 5 _ rfl) hW', cell_below (hcell 6 _ rfl) hW'⟩
      obtain ⟨x0, x1, x2, x3, x4, x5, x6⟩ := HCE.out wr hbel
      have HST := Lib.hid (And.intro hat (And.intro hcalm (And.intro hbel hok)))
      have hOs : off + k * 7 = O := hO.symm
      have ew : wrap64 ((k : Int) + 1) = ((k + 1 : Nat) : Int) := by unfold wrap64; omega
      clear hat hcalm hbel hok hcell ho hbs hO
      by_cases k1 : o.kind = 1
      · rw [k1] at x1
        have HS : Hid (∀ W, Calls Try.prog 34 #[.agg #[.int .i64 o.on, .int .i64 o.kind, .int .i64 o.a, .int .i64 o.b, .int .u8 o.c, .string o.s, o.cv]] W fun e w' => e = .returned (.string (ofL (sectorL o))) ∧ Below W.heap.size W w') := fun W => sector_any o W HST.out.2.2.2.c HST.out.2.2.2.s
        have HWr : Hid (∀ W, At W B p S → B ≤ W.heap.size → Calls Try.prog 26 #[.pointer (some ⟨p, 0, none⟩), .int .i64 o.a, .string (ofL (sectorL o))] W fun e w' => (∃ r, e = .returned (.int .i64 r)) ∧ At w' B p (S.write o.a (sectorL o)).1 ∧ Below B W w') := fun W hW hBW =>
          (write_at B p S W hW hBW o.a (ofL (sectorL o)) HST.out.2.2.2.a (by rw [ofL_size]; have := sectorL_len o HST.out.2.2.2.s; omega)).mono fun e w' q => by
            have q2 := q.2
            rw [ofL_list] at q2
            exact ⟨⟨_, q.1⟩, q2⟩
        have hBr : B ≤ wr.heap.size := by have := HST.out.2.2.1.size; have := HB.out.1; omega
        have HBr := Lib.hid (And.intro hBr k1)
        rw [k1] at HS
        clear x0 x2 x3 x4 x5 x6 hBr k1
        go_wp2
        go_region_held3 (fun W => W.cell? ⟨b, O, none⟩ = some (.int .i64 o.on) ∧ W.cell? ⟨b, O + 1, none⟩ = some (.int .i64 1) ∧ W.cell? ⟨b, O + 2, none⟩ = some (.int .i64 o.a) ∧ W.cell? ⟨b, O + 3, none⟩ = some (.int .i64 o.b) ∧ W.cell? ⟨b, O + 4, none⟩ = some (.int .u8 o.c) ∧ W.cell? ⟨b, O + 5, none⟩ = some (.string o.s) ∧ W.cell? ⟨b, O + 6, none⟩ = some o.cv)
          (first
            | (rw [← HBr.out.2]; exact HCE.out _ (below_drew HST.out.2.2.1))
            | (rw [← HBr.out.2]; exact HCE.out _ hb4)
            | (rw [← HBr.out.2]; exact HCE.out _ hb5))
          (first
            | (go_at_call 34; (with_reducible refine (HS.out _).mono ?_); rintro e w4 ⟨rfl, hb4'⟩; have hb4 : Below B w w4 := (below_drew HST.out.2.2.1).trans (hb4'.mono HBr.out.1); have hat4 := (HST.out.1.below (below_drew (Below.refl _ wr))).below hb4'; have hs4 := Nat.le_trans HBr.out.1 hb4'.size)
            | (go_at_call 26; (with_reducible refine (HWr.out _ hat4 hs4).mono ?_); rintro e w5 ⟨⟨r5, rfl⟩, hat5, hb5'⟩; have hb5 : Below B w w5 := hb4.trans hb5'))
        have hcw := HST.out.2.1.write o.a (sectorL o)
        have HF := Lib.hid (And.intro hat5 (And.intro hcw hb5))
        clear hat5 hcw hb5 hb5' hb4 hb4' hat4 hs4 x1 hOs
        go_wp2
        go_roundw
        case rel => exact ⟨k + 1, _, by omega, by first | go_num | rw [ew], HF.out.1, HF.out.2.1, HF.out.2.2⟩
        case measure => first | (simp [intOf]; omega) | (rw [ew]; simp only [intOf]; omega)
      · by_cases k2 : o.kind = 2
        · rw [k2] at x1
          have HWr : Hid (∀ W, At W B p S → B ≤ W.heap.size → Calls Try.prog 23 #[.pointer (some ⟨p, 0, none⟩), .int .i64 o.a, .int .i64 o.b] W fun e w' => (∃ r, e = .returned (.int .i64 r)) ∧ At w' B p (S.flush o.a o.b).1 ∧ Below B W w') := fun W hW hBW =>
            (flush_at B p S W hW hBW o.a o.b HST.out.2.2.2.a HST.out.2.2.2.b).mono fun e w' q => ⟨⟨_, q.1⟩, q.2⟩
          have hBr : B ≤ wr.heap.size := by have := HST.out.2.2.1.size; have := HB.out.1; omega
          have HBr := Lib.hid (And.intro hBr k2)
          have hBd : Hid (B ≤ wr.drew.heap.size) := hBr
          have hatd := Lib.hid (HST.out.1.below (below_drew (Below.refl _ wr)))
          clear x0 x2 x3 x4 x5 x6 hBr k1 k2
          go_wp2
          go_region_held3 (fun W => W.cell? ⟨b, O, none⟩ = some (.int .i64 o.on) ∧ W.cell? ⟨b, O + 1, none⟩ = some (.int .i64 2) ∧ W.cell? ⟨b, O + 2, none⟩ = some (.int .i64 o.a) ∧ W.cell? ⟨b, O + 3, none⟩ = some (.int .i64 o.b) ∧ W.cell? ⟨b, O + 4, none⟩ = some (.int .u8 o.c) ∧ W.cell? ⟨b, O + 5, none⟩ = some (.string o.s) ∧ W.cell? ⟨b, O + 6, none⟩ = some o.cv)
            (first
              | (rw [← HBr.out.2]; exact HCE.out _ (below_drew HST.out.2.2.1))
              | (rw [← HBr.out.2]; exact HCE.out _ hb5))
            (first
              | (go_at_call 23; (with_reducible refine (HWr.out _ hatd.out hBd.out).mono ?_); rintro e w5 ⟨⟨r5, rfl⟩, hat5, hb5'⟩; have hb5 : Below B w w5 := (below_drew HST.out.2.2.1).trans hb5'))
          have hcw := HST.out.2.1.flush o.a o.b
          have HF := Lib.hid (And.intro hat5 (And.intro hcw hb5))
          clear hat5 hcw hb5 hb5' x1 hOs
          go_wp2
          go_roundw
          case rel => exact ⟨k + 1, _, by omega, by first | go_num | rw [ew], HF.out.1, HF.out.2.1, HF.out.2.2⟩
          case measure => first | (simp [intOf]; omega) | (rw [ew]; simp only [intOf]; omega)
        · have HF := Lib.hid (And.intro HST.out.1 (And.intro HST.out.2.1 HST.out.2.2.1))
          clear x0 x2 x3 x4 x5 x6
          generalize o.kind = K at *
          go_wp2
          go_roundw
          case rel => exact ⟨k + 1, S, by omega, by first | go_num | rw [ew], HF.out.1, HF.out.2.1, HF.out.2.2⟩
          case measure => first | (simp [intOf]; omega) | (rw [ew]; simp only [intOf]; omega)
    · have hkL : k = L := by omega
      subst hkL
      have HF := Lib.hid (And.intro hat (And.intro hcalm hbel))
      clear hat hcalm hbel hlt
      go_wp2
      go_ret
      exact ⟨p, S, rfl, HF.out.1, HF.out.2.1, HF.out.2.2⟩
end Go.Proofs.Ytcmhpkeighenaaa
