/- A journal on a new disk. Conditions: ints are within 64 bits. -/
import Derived.Test.YtjippoejaieneaaGreatJrl
namespace Go.Proofs.YtjippoejaieneaaGreat
open Go.RowKit Go.Maps
set_option maxRecDepth 20000
set_option linter.unusedVariables false

def lS (b : Nat) : St := newS (List.replicate (128 * b) 0)
def lV (b : Nat) : Dv := newV 0 (b : Int) 4
def ldS (b : Nat) : St := (runS (fmtS b) (lS b) (lV b)).1
def ldV (b : Nat) : Dv := (runS (fmtS b) (lS b) (lV b)).2
theorem lbad {b : Nat} (h1 : 1 ≤ b) (h2 : b ≤ 4096) : ¬ Bad (ofL (List.replicate (128 * b) 0)) := by
  unfold Bad; rw [ofL_size, List.length_replicate]; omega
theorem lcalm {b : Nat} (h1 : 1 ≤ b) (h2 : b ≤ 4096) : Calm (128 * b) (lS b) := by
  have := Calm.new (lbad h1 h2)
  rw [ofL_list, ofL_size, List.length_replicate] at this
  exact this
theorem lcount (b : Nat) : (lS b).count = b := by
  show (List.replicate (128 * b) (0 : UInt8)).length / 128 = b
  rw [List.length_replicate]; omega
theorem lnw {b : Nat} (h1 : 1 ≤ b) : nwE (lS b) 0 (b : Int) 4 = 0 := by
  unfold nwE; rw [lcount, if_neg (by omega)]
theorem lVcnt (b : Nat) : (lV b).cnt = b ∧ (lV b).first = 0 ∧ (lV b).mis = 0 := ⟨Int.toNat_natCast _, rfl, rfl⟩
theorem lgood {b : Nat} (h1 : 1 ≤ b) (h2 : b ≤ 4096) : Good (lS b) (lV b) := newV_good (lcalm h1 h2).ok (lnw h1)
theorem lastW_fmtP : ∀ (k : Nat) (i : Int), lastW (fmtP k) i = if 1 ≤ i ∧ i ≤ (k : Int) then some ([], 0) else if i = 0 then some (Cd.putS 1 8, 2) else none
  | 0, i => by
    unfold fmtP
    simp only [List.range_zero, List.map_nil, headW, lastW, show (2:Int) % 2 = 0 from rfl]
    rw [if_neg (show ¬(1 ≤ i ∧ i ≤ ((0 : Nat) : Int)) from fun z => by have := z.1; have := z.2; omega)]
  | k + 1, i => by
    rw [fmtP_succ, lastW_app, lastW_fmtP k i]
    by_cases q : i = (k : Int) + 1
    · have e1 : lastW [Stp.wr ((k : Int) + 1) [] 0] i = some ([], 0) := by simp only [lastW]; rw [if_pos q]
      rw [e1, if_pos (show 1 ≤ i ∧ i ≤ ((k + 1 : Nat) : Int) from ⟨by omega, by omega⟩)]
    · have e1 : lastW [Stp.wr ((k : Int) + 1) [] 0] i = none := by simp only [lastW]; rw [if_neg q]
      rw [e1]
      by_cases q2 : 1 ≤ i ∧ i ≤ (k : Int)
      · rw [if_pos q2, if_pos (show 1 ≤ i ∧ i ≤ ((k + 1 : Nat) : Int) from ⟨q2.1, by have := q2.2; omega⟩)]
      · rw [if_neg q2, if_neg (show ¬(1 ≤ i ∧ i ≤ ((k + 1 : Nat) : Int)) from fun z => q2 ⟨z.1, by have := z.2; omega⟩)]
theorem fmtP_ok {V : Dv} (k : Nat) (h : k < V.cnt) (h4 : 4 < V.cnt) : ∀ s ∈ fmtP k, okStp V s := by
  intro s hs
  unfold fmtP at hs
  rcases List.mem_cons.1 hs with rfl | hs
  · exact headW_ok (by omega) (by omega) h4
  · obtain ⟨i, hi, rfl⟩ := List.mem_map.1 hs
    have hi := List.mem_range.1 hi
    exact ⟨by omega, by omega, by simp, stOk0⟩
theorem fmtS_ok {V : Dv} (h4 : 4 < V.cnt) : ∀ s ∈ fmtS V.cnt, okStp V s := by
  intro s hs
  unfold fmtS at hs
  rcases List.mem_append.1 hs with hs | hs
  · exact fmtP_ok _ (by omega) h4 s hs
  · rw [List.mem_singleton.1 hs]; trivial
theorem lastW_fmtS (c : Nat) (i : Int) (h : 1 ≤ i ∧ i < (c : Int)) : lastW (fmtS c) i = some ([], 0) := by
  unfold fmtS
  rw [lastW_app, lastW_fmtP]
  simp only [lastW]
  rw [if_pos (by omega)]
theorem ldS_cel {b : Nat} {a : Int} (h2 : b ≤ 4096) (ha : isA (lV b) a = true) : CelOk (ldS b) (ldV b) (fmtJ a.toNat) := by
  obtain ⟨hjo, haa⟩ := fmtJ_ok ha
  have a0 := hjo.a0
  have a1 := hjo.a1
  change 4 ≤ a.toNat at a0
  change a.toNat < (lV b).cnt at a1
  rw [(lVcnt b).1] at a1
  intro c hc _
  have hcn : (ldV b).cnt = (lV b).cnt := run_cnt (lcalm (by omega) h2).ok (lgood (by omega) h2)
  change c < (ldV b).cnt - a.toNat at hc
  rw [hcn, (lVcnt b).1] at hc
  obtain ⟨_, r2⟩ := run_rd (lcalm (by omega) h2) (lgood (b := b) (by omega) h2) (l := fmtS b) (by have := fmtS_ok (V := lV b) (by rw [(lVcnt b).1]; omega); rwa [(lVcnt b).1] at this) (k := (a.toNat : Int) + (c : Int)) ⟨by omega, by rw [(lVcnt b).1]; omega⟩
  exact (r2 [] 0 (lastW_fmtS _ _ ⟨by omega, by omega⟩) (by simp) stOk0).1
theorem At.low {W : World} {base b2 p : Nat} {S : St} (h : At W base p S) (hb : b2 ≤ base) : At W b2 p S := by
  obtain ⟨F, h1, h2⟩ := h
  exact ⟨F, h1, fun k z => ⟨Nat.le_trans hb (h2 k z).1, (h2 k z).2⟩⟩
set_option maxHeartbeats 4000000 in
theorem laid_any (b : Nat) (a : Int) (w : World) (h1 : 1 ≤ b) (h2 : b ≤ 60) (ha : In64 a) :
    Calls Tryz.prog 21 #[.int .i64 (b : Int), .int .i64 a] w fun e w' => Below w.heap.size w w' ∧
      ((isA (lV b) a = false ∧ ∃ p, e = .returned (.tuple #[.pointer (some ⟨p, 0, none⟩), .pointer none, .int .i64 160])) ∨
       (isA (lV b) a = true ∧ ∃ j x p, e = .returned (.tuple #[.pointer (some ⟨p, 0, none⟩), .pointer (some ⟨j, 0, none⟩), .int .i64 0]) ∧ JAt w' w.heap.size j x p (ldS b) (ldV b) (fmtJ a.toNat))) := by
  have hB : Hid (w.heap.size ≤ w.heap.size) := Nat.le_refl _
  obtain ⟨Z, hZ⟩ : ∃ Z, Z = ofL (List.replicate (128 * b) (0 : UInt8)) := ⟨_, rfl⟩
  obtain ⟨M, hM⟩ : ∃ M : Int, M = 128 * (b : Int) := ⟨_, rfl⟩
  have hMw : IntKind.i64.wrap (128 * (b : Int)) = M := by rw [IntKind.wrap_i64, hM]; omega
  have KN : Hid (Calls Tryz.prog 37 #[.int .i64 M] w fun e w' => e = .returned (.string Z) ∧ Below w.heap.size w w') := by
    have := noughts_any (128 * b) (by omega) w
    rw [show ((128 * b : Nat) : Int) = M by omega] at this
    rw [hZ]; exact this
  have KD : Hid (∀ W, Calls Tryz.prog 7 #[.string Z] W fun e w' => ∃ p, e = .returned (.tuple #[.pointer (some ⟨p, 0, none⟩), .int .i64 0]) ∧ At w' W.heap.size p (lS b) ∧ Below W.heap.size W w') := fun W => by
    have := new_at (ofL (List.replicate (128 * b) 0)) W (by rw [ofL_size, List.length_replicate]; omega) (lbad h1 (by omega))
    rw [ofL_list] at this
    rw [hZ]; exact this
  have KV : Hid (∀ W p, At W w.heap.size p (lS b) → w.heap.size ≤ W.heap.size → Calls Tryz.prog 43 #[.pointer (some ⟨p, 0, none⟩), .int .i64 0, .int .i64 (b : Int), .int .i64 4] W fun e w' => e = .returned (.tuple #[.pointer (some ⟨W.heap.size, 0, none⟩), .int .i64 0]) ∧ EAt w' w.heap.size W.heap.size p (lS b) (lV b) ∧ Below W.heap.size W w') := fun W p h hb =>
    enew_at w.heap.size p (lS b) 0 (b : Int) 4 W h hb (by unfold In64; omega) (by unfold In64; omega) (by unfold In64; omega) (lnw h1)
  have KF : Hid (∀ W x p, EAt W w.heap.size x p (lS b) (lV b) → Calls Tryz.prog 56 #[.pointer (some ⟨x, 0, none⟩), .int .i64 a] W fun e w' =>
      (isA (lV b) a = false ∧ e = .returned (.tuple #[.pointer none, .int .i64 160]) ∧ Below W.heap.size W w') ∨
      (isA (lV b) a = true ∧ ∃ j, e = .returned (.tuple #[.pointer (some ⟨j, 0, none⟩), .int .i64 0]) ∧ JAt w' w.heap.size j x p (ldS b) (ldV b) (fmtJ a.toNat) ∧ Below w.heap.size W w')) := fun W x p h => by
    have := format_at w.heap.size x p (lS b) (lV b) a (128 * b) W h (lcalm h1 (by omega)) ha
    rw [(lVcnt b).1] at this
    exact this
  clear hZ hM ha
  cases hz : isA (lV b) a with
  | false =>
    rw [hz] at KF
    go_enter Tryz.func21, Tryz.ntmps21
    go_wp2_with (first
      | (go_at_call 37; (with_reducible refine KN.out.mono ?_); rintro e w1 ⟨rfl, hb1⟩)
      | (go_at_call 7; (with_reducible refine (KD.out w1).mono ?_); rintro e w2 ⟨p, rfl, hat, hb2⟩; have HA2 : Hid (At w2 w.heap.size p (lS b) ∧ Below w.heap.size w w2) := ⟨hat.low hb1.size, hb1.trans (hb2.mono hb1.size)⟩; clear hat hb1 hb2)
      | (go_at_call 43; (with_reducible refine (KV.out w2 p HA2.out.1 HA2.out.2.size).mono ?_); rintro e w3 ⟨rfl, he3, hb3⟩; have HE3 := Lib.hid (And.intro he3 hb3); clear he3 hb3)
      | (go_at_call 56; (with_reducible refine (KF.out w3 _ p HE3.out.1).mono ?_); intro e w4 hq; obtain ⟨rfl, hb4⟩ := (hq.resolve_right (fun z => by cases z.1)).2; have HB4 := Lib.hid hb4; clear hq hb4))
    go_ret3
    exact ⟨HA2.out.2.trans ((HE3.out.2.trans (HB4.out.mono HE3.out.2.size)).mono HA2.out.2.size), .inl ⟨trivial, p, rfl⟩⟩
  | true =>
    rw [hz] at KF
    go_enter Tryz.func21, Tryz.ntmps21
    go_wp2_with (first
      | (go_at_call 37; (with_reducible refine KN.out.mono ?_); rintro e w1 ⟨rfl, hb1⟩)
      | (go_at_call 7; (with_reducible refine (KD.out w1).mono ?_); rintro e w2 ⟨p, rfl, hat, hb2⟩; have HA2 : Hid (At w2 w.heap.size p (lS b) ∧ Below w.heap.size w w2) := ⟨hat.low hb1.size, hb1.trans (hb2.mono hb1.size)⟩; clear hat hb1 hb2)
      | (go_at_call 43; (with_reducible refine (KV.out w2 p HA2.out.1 HA2.out.2.size).mono ?_); rintro e w3 ⟨rfl, he3, hb3⟩; have HE3 := Lib.hid (And.intro he3 hb3); clear he3 hb3)
      | (go_at_call 56; (with_reducible refine (KF.out w3 _ p HE3.out.1).mono ?_); intro e w4 hq; obtain ⟨j, rfl, hj4, hb4⟩ := (hq.resolve_left (fun z => by cases z.1)).2; have HB4 := Lib.hid (And.intro hj4 hb4); clear hq hj4 hb4))
    go_ret3
    exact ⟨HA2.out.2.trans ((HE3.out.2.mono HA2.out.2.size).trans HB4.out.2), .inr ⟨trivial, j, w2.heap.size, p, rfl, HB4.out.1⟩⟩
end Go.Proofs.YtjippoejaieneaaGreat
