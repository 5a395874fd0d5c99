/- Texts of an expression so many times: the law's walk. Conditions: the expression lies in memory, its sets' numbers are of 64 bits. -/
import Derived.Test.YtdmajbdgjjmlkaaStw
import Derived.Test.YtdmajbdgjjmlkaaCnp
import Derived.Deep.QuietTactic
import Derived.BigQuiet
namespace Go.Proofs.Ytdmajbdgjjmlkaa
open Go.RowKit
set_option linter.unusedVariables false
set_option linter.unusedSimpArgs false

/-- is a text in it, for one of the numbers from lo on, n of them? -/
def oneF (t : Rx) (s : Bs) (lo : Nat) : Nat → Bool
  | 0 => false
  | n + 1 => oneF t s lo n || (macR (repT (lo + n : Nat) (lo + n : Nat) t)).inB s
theorem inB_iff {t : Rx} (hc : checkR t = 0) (s : Bs) : (macR t).inB s = true ↔ s.length ≤ 256 ∧ Lang t s := by
  rw [check_zero] at hc
  unfold Mac.inB
  rw [Bool.and_eq_true, decide_eq_true_iff, mac_is hc.1 hc.2]
theorem oneF_iff {t : Rx} {lo hi : Nat} (s : Bs) (h : hi ≤ 15) (hc : checkR (repT lo hi t) = 0) : ∀ n, lo + n ≤ hi + 1 → (oneF t s lo n = true ↔ s.length ≤ 256 ∧ ∃ j, lo ≤ j ∧ j < lo + n ∧ Pow (Lang t) j s)
  | 0, _ => by
    rw [oneF]
    constructor
    · intro h; cases h
    · rintro ⟨_, j, h1, h2, _⟩; omega
  | n + 1, hn => by
    rw [oneF, Bool.or_eq_true, oneF_iff s h hc n (by omega), inB_iff (rep_one (by omega) hc _ (by omega)), lang_rep1]
    constructor
    · rintro (⟨a, j, b, c, d⟩ | ⟨a, b⟩)
      · exact ⟨a, j, b, by omega, d⟩
      · exact ⟨a, lo + n, by omega, by omega, b⟩
    · rintro ⟨a, j, b, c, d⟩
      by_cases e : j = lo + n
      · subst e; exact .inr ⟨a, d⟩
      · exact .inl ⟨a, j, b, by omega, d⟩
theorem all_one {t : Rx} {lo hi : Nat} (s : Bs) (hlh : lo ≤ hi) (h : hi ≤ 15) (hc : checkR (repT lo hi t) = 0) : (macR (repT lo hi t)).inB s = oneF t s lo (hi + 1 - lo) := by
  have a := inB_iff hc s
  have b := oneF_iff s h hc (hi + 1 - lo) (by omega)
  rw [lang_rep (by omega)] at a
  cases x : (macR (repT lo hi t)).inB s <;> cases y : oneF t s lo (hi + 1 - lo)
  · rfl
  · obtain ⟨q, j, j1, j2, j3⟩ := b.1 y
    rw [a.2 ⟨q, j, by omega, by omega, j3⟩] at x; cases x
  · obtain ⟨q, j, j1, j2, j3⟩ := a.1 x
    rw [b.2 ⟨q, j, by omega, by omega, j3⟩] at y; cases y
  · rfl
theorem seq_same {t : Rx} {lo hi k : Nat} (s : Bs) (h : hi ≤ 15) (hc : checkR (repT lo hi t) = 0) (hk : lo ≤ k ∧ k ≤ hi) (h2 : 2 ≤ k) : (macR (seqT k t)).inB s = (macR (repT k k t)).inB s := by
  have a := inB_iff (seq_one (by omega) hc k (by omega) h2) s
  have b := inB_iff (rep_one (by omega) hc k (by omega)) s
  rw [lang_seq] at a
  rw [lang_rep1] at b
  cases x : (macR (seqT k t)).inB s <;> cases y : (macR (repT k k t)).inB s
  · rfl
  · rw [a.2 (b.1 y)] at x; cases x
  · rw [b.2 (a.1 x)] at y; cases y
  · rfl
/-- a list of one expression that lies there -/
theorem lies_one {w : World} {t : Rx} {v : Value} (h : LiesL (fun _ => True) w v t.list) : LiesL (fun _ => True) (w.alloc (.cells (t.cells v) 26)) (.slice (some ⟨w.heap.size, 0, none⟩) 1 1) [t] := by
  have := LiesL.mk (ok := fun _ => True) (w := w.alloc (.cells (t.cells v) 26)) (some ⟨w.heap.size, 0, none⟩) 1 [t] (fun _ => v) (by simp) (fun i hi => by
    have : i = 0 := by simpa using hi
    subst this
    refine ⟨_, rfl, trivial, by simp, fun j u hu => ?_⟩
    rw [add0, Nat.zero_mul, Nat.zero_add]
    exact cell_at (heap_alloc_new w _) hu) (fun i hi => by
    have : i = 0 := by simpa using hi
    subst this
    exact h.stay (below_new w _))
  exact this
/-- how long the list of an expression in block Z is -/
def lenAt (Z : Nat) (w : World) : Nat := match w.cell? ⟨Z, 7, none⟩ with
  | some (.slice _ n _) => n
  | _ => 0
theorem lenAt_eq {Z : Nat} {w : World} {v0 v1 v2 v3 v4 v5 v6 : Value} {ao : Option Addr} {n cap : Nat} {ty : TypeId} (h : w.heap[Z]? = some (.cells #[v0, v1, v2, v3, v4, v5, v6, .slice ao n cap] ty (0, 0))) : lenAt Z w = n := by
  unfold lenAt
  rw [cell_at (o := 7) (u := .slice ao n cap) h rfl]
set_option maxRecDepth 100000 in
set_option maxHeartbeats 8000000 in
theorem counts_walk (t : Rx) (sv : Value) (x0 x1 : Int) (s : ByteArray) (w : World) (hl : LiesL (fun _ => True) w sv t.list) (hok : okR t) :
    Calls Try.prog 9 #[t.val sv, .agg #[.int .i64 x0, .int .i64 x1], .string s] w fun e w' => e = .returned (.bool true) ∧ Below w.heap.size w w' := by
  obtain ⟨ao, cap, rfl⟩ := hl.value
  obtain ⟨B, hB⟩ : ∃ B, B = w.heap.size := ⟨_, rfl⟩
  obtain ⟨t', ht'⟩ : ∃ t', t' = t := ⟨_, rfl⟩
  have KF : Hid (∀ w1, Below B w w1 → Calls Try.prog 12 #[] w1 fun e w' => e = .returned (.bool true) ∧ Hid (Below B w w')) := Lib.hid fun w1 hb => (fixed_any w1).mono fun e w' h => ⟨h.1, Lib.hid (hb.trans (h.2.mono (by have := hb.size; omega)))⟩
  have LW : Hid (∀ w1, Below B w w1 → LiesL (fun _ => True) w1 (.slice ao t.list.length cap) t.list) := Lib.hid fun w1 hb => hl.stay (by rw [← hB]; exact hb)
  -- a machine of so many times the expression
  have KA : Hid (∀ (lo hi : Int) w1, Below B w w1 → Calls Try.prog 25 #[.agg #[.int .i64 3, .int .i64 lo, .int .i64 hi, .int .u64 0, .int .u64 0, .int .u64 0, .int .u64 0, .slice (some ⟨w1.heap.size, 0, none⟩) 1 1]] (w1.alloc (.cells (t.cells (.slice ao t.list.length cap)) 26)) fun e w' => (checkR (repT lo hi t') ≠ 0 ∧ e = .returned (.pointer none) ∧ Hid (Below w1.heap.size w1 w')) ∨ (checkR (repT lo hi t') = 0 ∧ ∃ p, e = .returned (.pointer (some ⟨p, 0, none⟩)) ∧ Hid ((IsM B p (macR (repT lo hi t')) w' ∧ Mok (macR (repT lo hi t'))) ∧ Below w1.heap.size w1 w'))) := Lib.hid fun lo hi w1 hb => by
    have hBs : B ≤ w1.heap.size := by have := hb.size; omega
    refine (fits_any (w1.alloc _) (repT lo hi t) (.slice (some ⟨w1.heap.size, 0, none⟩) 1 1) (lies_one (LW.out w1 hb)) (rep_okR hok)).mono fun e w' h => ?_
    obtain ⟨h1, ⟨h2, h3⟩ | ⟨h2, p, h3, h4, h5⟩⟩ := h
    · exact .inl ⟨by rw [ht']; exact h2, h3, Lib.hid (below_trans (below_new w1 _) h1)⟩
    · rw [ht']; exact .inr ⟨h2, p, h3, Lib.hid ⟨⟨h4.mono (by simp; omega), h5⟩, below_trans (below_new w1 _) h1⟩⟩
  -- the machine of a row of as many
  have KS : Hid (∀ (n : Nat) v w1, Below B w w1 → LiesL (fun _ => True) w1 v (List.replicate n t) → Calls Try.prog 25 #[.agg #[.int .i64 1, .int .i64 0, .int .i64 0, .int .u64 0, .int .u64 0, .int .u64 0, .int .u64 0, v]] w1 fun e w' => (checkR (seqT n t') ≠ 0 ∧ e = .returned (.pointer none) ∧ Hid (Below w1.heap.size w1 w')) ∨ (checkR (seqT n t') = 0 ∧ ∃ p, e = .returned (.pointer (some ⟨p, 0, none⟩)) ∧ Hid ((IsM B p (macR (seqT n t')) w' ∧ Mok (macR (seqT n t'))) ∧ Below w1.heap.size w1 w'))) := Lib.hid fun n v w1 hb hv => by
    have hBs : B ≤ w1.heap.size := by have := hb.size; omega
    refine (fits_any w1 (seqT n t) v hv (seq_okR hok)).mono fun e w' h => ?_
    obtain ⟨h1, ⟨h2, h3⟩ | ⟨h2, p, h3, h4, h5⟩⟩ := h
    · exact .inl ⟨by rw [ht']; exact h2, h3, Lib.hid h1⟩
    · rw [ht']; exact .inr ⟨h2, p, h3, Lib.hid ⟨⟨h4.mono hBs, h5⟩, h1⟩⟩
  have KI : Hid (∀ p M w1 r, (IsM B p M w1 ∧ Mok M) → M.inB s.data.toList = r → Calls Try.prog 26 #[.pointer (some ⟨p, 0, none⟩), .string s] w1 fun e w' => e = .returned (.bool r) ∧ Hid (Below w1.heap.size w1 w')) := Lib.hid fun p M w1 r h hr => by
    have := in_any _ p M w1 h.1 h.2 s
    rw [hr] at this
    exact this.mono fun e w' g => ⟨g.1, Lib.hid g.2⟩
  rw [← hB]
  obtain ⟨tk, tmn, tmx, t0, t1, t2, t3, ls⟩ := t
  unfold Rx.val
  dsimp only [Rx.cells, cellsX, Rx.list] at LW KA KS ⊢
  -- the world in which the two boxes lie
  obtain ⟨W0, hW0⟩ : ∃ W0, W0 = (w.alloc (.cells #[.int .i64 tk, .int .i64 tmn, .int .i64 tmx, .int .u64 t0, .int .u64 t1, .int .u64 t2, .int .u64 t3, .slice ao ls.length cap] 26)).alloc (.cells #[.int .i64 x0, .int .i64 x1] 44) := ⟨_, rfl⟩
  have z1 : (w.alloc (.cells #[.int .i64 tk, .int .i64 tmn, .int .i64 tmx, .int .u64 t0, .int .u64 t1, .int .u64 t2, .int .u64 t3, .slice ao ls.length cap] 26)).heap[B]? = some (.cells #[.int .i64 tk, .int .i64 tmn, .int .i64 tmx, .int .u64 t0, .int .u64 t1, .int .u64 t2, .int .u64 t3, .slice ao ls.length cap] 26) := by rw [hB]; exact heap_alloc_new w _
  have z2 : W0.heap[B + 1]? = some (.cells #[.int .i64 x0, .int .i64 x1] 44 (0, 0)) := by
    have := heap_alloc_new (w.alloc (.cells #[.int .i64 tk, .int .i64 tmn, .int .i64 tmx, .int .u64 t0, .int .u64 t1, .int .u64 t2, .int .u64 t3, .slice ao ls.length cap] 26)) (.cells #[.int .i64 x0, .int .i64 x1] 44)
    rw [show (w.alloc (.cells #[.int .i64 tk, .int .i64 tmn, .int .i64 tmx, .int .u64 t0, .int .u64 t1, .int .u64 t2, .int .u64 t3, .slice ao ls.length cap] 26)).heap.size = B + 1 by rw [hB]; simp] at this
    rw [hW0]; exact this
  have zb : Below B w W0 := by rw [hW0, hB]; exact below_trans (below_new w _) (below_new _ _)
  have z3 : W0.heap[B]? = some (.cells #[.int .i64 tk, .int .i64 tmn, .int .i64 tmx, .int .u64 t0, .int .u64 t1, .int .u64 t2, .int .u64 t3, .slice ao ls.length cap] 26 (0, 0)) := by
    rw [hW0, Below.heap_alloc _ _ B (by rw [show (w.alloc (.cells #[.int .i64 tk, .int .i64 tmn, .int .i64 tmx, .int .u64 t0, .int .u64 t1, .int .u64 t2, .int .u64 t3, .slice ao ls.length cap] 26)).heap.size = B + 1 by rw [hB]; simp]; omega)]; exact z1
  have HW0 : Hid ((w.alloc (.cells #[.int .i64 tk, .int .i64 tmn, .int .i64 tmx, .int .u64 t0, .int .u64 t1, .int .u64 t2, .int .u64 t3, .slice ao ls.length cap] 26)).alloc (.cells #[.int .i64 x0, .int .i64 x1] 44) = W0) := Lib.hid hW0.symm
  have c0 : W0.cell? ⟨B + 1, 0, none⟩ = some (.int .i64 x0) := cell_at z2 rfl
  have c1 : W0.cell? ⟨B + 1, 1, none⟩ = some (.int .i64 x1) := cell_at z2 rfl
  have c0d : W0.drew.cell? ⟨B + 1, 0, none⟩ = some (.int .i64 x0) := c0
  have c1d : W0.drew.cell? ⟨B + 1, 1, none⟩ = some (.int .i64 x1) := c1
  -- what stays: the box of the expression
  obtain ⟨P, hP⟩ : ∃ P : World → Prop, P = fun wr => Below B w wr ∧ wr.heap[B]? = some (.cells #[.int .i64 tk, .int .i64 tmn, .int .i64 tmx, .int .u64 t0, .int .u64 t1, .int .u64 t2, .int .u64 t3, .slice ao ls.length cap] 26 (0, 0)) := ⟨_, rfl⟩
  have PW : Hid (∀ n, P (W0.drewN n)) := Lib.hid (by rw [hP]; exact fun n => ⟨below_drewN zb n, z3⟩)
  have PB : Hid (∀ wr, P wr → Below B w wr) := Lib.hid (by rw [hP]; exact fun wr h => h.1)
  have PS : Hid (∀ wr wr2, P wr → Below wr.heap.size wr wr2 → P wr2) := Lib.hid (by
    rw [hP]
    exact fun wr wr2 h hb => ⟨h.1.trans (hb.mono (by have := h.1.size; omega)), (hb.block _ (block_lt' h.2)).trans h.2⟩)
  have PC : Hid (∀ wr, P wr → wr.cell? ⟨B, 0, none⟩ = some (.int .i64 tk) ∧ wr.cell? ⟨B, 1, none⟩ = some (.int .i64 tmn) ∧ wr.cell? ⟨B, 2, none⟩ = some (.int .i64 tmx) ∧ wr.cell? ⟨B, 3, none⟩ = some (.int .u64 t0) ∧ wr.cell? ⟨B, 4, none⟩ = some (.int .u64 t1) ∧ wr.cell? ⟨B, 5, none⟩ = some (.int .u64 t2) ∧ wr.cell? ⟨B, 6, none⟩ = some (.int .u64 t3) ∧ wr.cell? ⟨B, 7, none⟩ = some (.slice ao ls.length cap)) := Lib.hid (by
    rw [hP]
    exact fun wr h => cells8_at h.2)
  have PF : Hid (∀ wr, P wr → Calls Try.prog 12 #[] wr fun e w' => e = .returned (.bool true) ∧ P w') := Lib.hid fun wr h => (fixed_any wr).mono fun e w' g => ⟨g.1, PS.out _ _ h g.2⟩
  have HT := Lib.hid ht'
  clear ht'
  have hzz : w.heap.size = B := hB.symm
  clear hl hok hB hW0 z1 z2 zb z3 hP KF
  go_enter Try.func9, Try.ntmps9
  go_wp2_with fail
  rw [HW0.out]
  go_quiet (fail)
  have hP1 := PW.out nq
  generalize W0.drewN nq = w0 at *
  clear c0 c1 c0d c1d
  by_cases hv : 0 ≤ x0 ∧ x0 ≤ x1 ∧ x1 ≤ 15
  · obtain ⟨v0, v1, v2⟩ := hv
    obtain ⟨lo, rfl⟩ := Int.eq_ofNat_of_zero_le v0
    obtain ⟨hi, rfl⟩ := Int.eq_ofNat_of_zero_le (show 0 ≤ x1 by omega)
    have g0 : ¬ ((lo : Nat) : Int) < 0 := by omega
    have g1 : ¬ ((hi : Nat) : Int) < ((lo : Nat) : Int) := by omega
    have g2 : ¬ (15 : Int) < ((hi : Nat) : Int) := by omega
    have HV : Hid (lo ≤ hi ∧ hi ≤ 15) := Lib.hid (by omega)
    clear v0 v1 v2
    go_wp2_with (first
      | (go_at_call 12; (with_reducible refine (PF.out _ hP1).mono ?_); rintro e w1 ⟨rfl, hP2⟩; clear hP1; obtain ⟨d0, d1, d2, d3, d4, d5, d6, d7⟩ := PC.out _ hP2)
      | (go_at_call 25; (with_reducible refine (KA.out _ _ _ (PB.out _ hP2)).mono ?_); rintro e w2 (⟨hc, rfl, hb2⟩ | ⟨hc, pa, rfl, hb2⟩)))
    · go_wp2
      go_ret
      exact ⟨rfl, PB.out _ (PS.out _ _ hP2 hb2.out)⟩
    · have hP3 := PS.out _ _ hP2 hb2.out.2
      have HC := Lib.hid hc
      obtain ⟨Ma, hMa⟩ : ∃ Ma, Ma = macR (repT lo hi t') := ⟨_, rfl⟩
      have IA := hb2.out.1
      rw [← hMa] at IA
      have HMA := Lib.hid hMa
      obtain ⟨R, hR⟩ : ∃ R : World → Prop, R = fun wr => P wr ∧ (IsM B pa Ma wr ∧ Mok Ma) := ⟨_, rfl⟩
      have R0 : R w2 := by rw [hR]; exact ⟨hP3, IA⟩
      have RP : Hid (∀ wr, R wr → P wr) := Lib.hid (by rw [hR]; exact fun wr h => h.1)
      have RI : Hid (∀ wr, R wr → IsM B pa Ma wr ∧ Mok Ma) := Lib.hid (by rw [hR]; exact fun wr h => h.2)
      have RS : Hid (∀ wr wr2, R wr → Below wr.heap.size wr wr2 → R wr2) := Lib.hid (by
        rw [hR]; exact fun wr wr2 h hb => ⟨PS.out _ _ h.1 hb, h.2.1.of_below hb, h.2.2⟩)
      clear hP2 hP3 hb2 hc hMa IA hR d0 d1 d2 d3 d4 d5 d6 d7
      go_wp2
      go_loopw [10, 11] (fun o v wr => ∃ n : Nat, lo + n ≤ hi + 1 ∧ v = .int .i64 ((lo + n : Nat) : Int) ∧ (∃ b, o = .bool b ∧ Hid (oneF t' s.data.toList lo n = b)) ∧ R wr) (fun _ v _ => hi + 1 - (intOf v).toNat)
      case atStart => exact ⟨0, by have := HV.out; omega, rfl, ⟨false, rfl, Lib.hid rfl⟩, R0⟩
      case round =>
        obtain ⟨n, hn, rfl, ⟨b, rfl, hone⟩, hRw⟩ := hrel
        clear R0
        obtain ⟨k, hk⟩ : ∃ k, k = lo + n := ⟨_, rfl⟩
        rw [← hk]
        by_cases hle : k ≤ hi
        · have hki : (k : Int) ≤ (hi : Int) := by omega
          have hkl : (k : Int) ≤ 15 := by have := HV.out; omega
          have HK : Hid (lo ≤ k ∧ k ≤ hi ∧ k = lo + n) := Lib.hid (by omega)
          have hck := rep_one (by have := HV.out; omega) HC.out (k : Int) (by omega)
          obtain ⟨d0, d1, d2, d3, d4, d5, d6, d7⟩ := PC.out _ (RP.out _ hRw)
          have HCK := Lib.hid hck
          clear hn hk hle hck
          go_wp2_with (go_at_call 25; (with_reducible refine (KA.out _ _ _ (PB.out _ (RP.out _ hRw))).mono ?_); rintro e w3 (⟨hc, rfl, hb3⟩ | ⟨hc, pm, rfl, hb3⟩))
          · exact absurd HCK.out hc
          obtain ⟨Mm, hMm⟩ : ∃ Mm, Mm = macR (repT k k t') := ⟨_, rfl⟩
          have IM := hb3.out.1
          rw [← hMm] at IM
          have hR3 := RS.out _ _ hRw hb3.out.2
          obtain ⟨r, hr⟩ : ∃ r, r = Mm.inB s.data.toList := ⟨_, rfl⟩
          have KM := Lib.hid (KI.out pm Mm w3 r IM hr.symm)
          have hone2 : oneF t' s.data.toList lo (n + 1) = (b || r) := by
            rw [oneF, hone.out, hr, hMm, HK.out.2.2]
          have HONE := Lib.hid hone2
          have HR := Lib.hid (And.intro hr hMm)
          have HSZ : Hid (2 ≤ k → checkR (seqT k t') = 0 ∧ (macR (seqT k t')).inB s.data.toList = r) := Lib.hid fun h2 => by
            have hkk := HK.out
            have hv := HV.out
            refine ⟨seq_one (by omega) HC.out k (by omega) h2, ?_⟩
            rw [hr, hMm]
            exact seq_same s.data.toList hv.2 HC.out ⟨hkk.1, hkk.2.1⟩ h2
          have HEND : Hid (∀ wr : World, R wr → ∃ n' : Nat, lo + n' ≤ hi + 1 ∧ Value.int .i64 ((k : Int) + 1) = .int .i64 ((lo + n' : Nat) : Int) ∧ (∃ b', Value.bool (b || r) = .bool b' ∧ Hid (oneF t' s.data.toList lo n' = b')) ∧ R wr) := Lib.hid fun wr h => ⟨n + 1, by have := HK.out; omega, by have := HK.out; congr 1; omega, ⟨b || r, rfl, HONE⟩, h⟩
          have HMEAS : Hid (hi + 1 - (intOf (.int .i64 ((k : Int) + 1))).toNat < hi + 1 - (intOf (.int .i64 (k : Int))).toNat) := Lib.hid (by simp [intOf]; have := HK.out; omega)
          clear hr hMm hone2 hone hb3 hc hRw IM d0 d1 d2 d3 d4 d5 d6 d7
          by_cases hk2 : k < 2
          · have hk2i : (k : Int) < 2 := by omega
            cases b
            · go_wp2_with (go_at_call 26; (with_reducible refine KM.out.mono ?_); rintro e w4 ⟨rfl, hb4⟩; have hR4 := RS.out _ _ hR3 hb4.out; clear hR3 hb4)
              exact ⟨HEND.out _ hR4, HMEAS.out⟩
            · go_wp2_with (go_at_call 26; (with_reducible refine KM.out.mono ?_); rintro e w4 ⟨rfl, hb4⟩; have hR4 := RS.out _ _ hR3 hb4.out; clear hR3 hb4)
              exact ⟨HEND.out _ hR4, HMEAS.out⟩
          · have hk2i : ¬ (k : Int) < 2 := by omega
            obtain ⟨hcs, hrs⟩ := HSZ.out (by omega)
            have HCS := Lib.hid (And.intro hcs hrs)
            clear hcs hrs hk2
            cases b
            · go_wp2_with (go_at_call 26; (with_reducible refine KM.out.mono ?_); rintro e w4 ⟨rfl, hb4⟩; have hR4 := RS.out _ _ hR3 hb4.out; clear hR3 hb4)
              -- the row of as many, put together
              obtain ⟨Z, hZ⟩ : ∃ Z, Z = w4.heap.size := ⟨_, rfl⟩
              obtain ⟨W5, hW5⟩ : ∃ W5, W5 = w4.alloc (.cells #[.int .i64 1, .int .i64 0, .int .i64 0, .int .u64 0, .int .u64 0, .int .u64 0, .int .u64 0, .slice none 0 0] 26) := ⟨_, rfl⟩
              have b5 : Below w4.heap.size w4 W5 := by rw [hW5]; exact below_new w4 _
              have z5 : W5.heap[Z]? = some (.cells #[.int .i64 1, .int .i64 0, .int .i64 0, .int .u64 0, .int .u64 0, .int .u64 0, .int .u64 0, .slice none 0 0] 26 (0, 0)) := by rw [hW5, hZ]; exact heap_alloc_new w4 _
              rw [← hW5]
              have hZZ : w4.heap.size = Z := hZ.symm
              have H5 := Lib.hid (And.intro b5 (And.intro z5 (show W5.heap.size = Z + 1 by rw [hW5, hZ]; simp)))
              have H4 := Lib.hid hR4
              have HZ := Lib.hid hZ
              clear b5 z5 hW5 hZ hR4
              rw [hZZ]
              go_loopw [67] (fun o wq => ∃ (i : Nat) (bo : Option Addr) (caq : Nat), i ≤ k ∧ Hid (Below w4.heap.size w4 wq ∧ wq.heap[Z]? = some (.cells #[.int .i64 1, .int .i64 0, .int .i64 0, .int .u64 0, .int .u64 0, .int .u64 0, .int .u64 0, .slice bo i caq] 26 (0, 0)) ∧ wq.ownsRow (Z + 1) 26 8 (.slice bo i caq) i (flat8 (List.replicate i (t', .slice ao ls.length cap))))) (fun _ wq => k - lenAt Z wq)
              case atStart => exact ⟨0, none, 0, Nat.zero_le _, Lib.hid ⟨H5.out.1, H5.out.2.1, World.ownsRow_nil _ _ _ _⟩⟩
              case round =>
                obtain ⟨i, bo, caq, hi, HQ⟩ := hrel
                obtain ⟨q1, q2, q3⟩ := HQ.out
                have hR9 := RS.out _ _ H4.out q1
                obtain ⟨d0, d1, d2, d3, d4, d5, d6, d7⟩ := PC.out _ (RP.out _ hR9)
                obtain ⟨e0, e1, e2, e3, e4, e5, e6, e7⟩ := cells8_at q2
                have ef : ∀ o, wr.frozen? ⟨Z, o, none⟩ = false := fun o => free_at q2
                have hm1 : lenAt Z wr = i := lenAt_eq q2
                rw [hm1]
                by_cases hlt : i < k
                · have hii : (i : Int) < (k : Int) := by omega
                  obtain ⟨W6, hW6⟩ : ∃ W6, W6 = wr.alloc (.cells #[.int .i64 tk, .int .i64 tmn, .int .i64 tmx, .int .u64 t0, .int .u64 t1, .int .u64 t2, .int .u64 t3, .slice ao ls.length cap] 26) := ⟨_, rfl⟩
                  have b6 : Below wr.heap.size wr W6 := by rw [hW6]; exact below_new wr _
                  have g6 : wr.grownBy W6 none := ⟨b6.os, b6.tape, b6.output, b6.size, fun i hi _ => b6.block i hi⟩
                  have q3' := q3.kept g6 (by cases (Value.slice bo i caq).ownBlock <;> simp)
                  have x6 : W6.heap[wr.heap.size]? = some (.cells (t'.cells (.slice ao ls.length cap)) 26 (0, 0)) := by rw [hW6, HT.out]; exact heap_alloc_new wr _
                  have hsz6 : Z + 1 ≤ W6.heap.size := by have := block_lt' q2; have := b6.size; omega
                  have q3'' : W6.ownsRow (Z + 1) 26 8 (.slice bo i caq) (List.replicate i (t', Value.slice ao ls.length cap)).length (flat8 (List.replicate i (t', .slice ao ls.length cap))) := by rw [List.length_replicate]; exact q3'
                  obtain ⟨bo2, caq2, w7, hr, ho7, hg7, -⟩ := push8 (w := W6) (ps := List.replicate i (t', Value.slice ao ls.length cap)) t' (.slice ao ls.length cap) 24 q3'' x6 rfl (by rw [List.length_replicate]; have := HK.out; have := HV.out; omega) hsz6
                  have el : (List.replicate i (t', Value.slice ao ls.length cap) ++ [(t', Value.slice ao ls.length cap)]) = List.replicate (i + 1) (t', Value.slice ao ls.length cap) := by rw [List.replicate_succ']
                  rw [el, List.length_replicate] at ho7 hr
                  have z7 : w7.heap[Z]? = some (.cells #[.int .i64 1, .int .i64 0, .int .i64 0, .int .u64 0, .int .u64 0, .int .u64 0, .int .u64 0, .slice bo i caq] 26 (0, 0)) := by
                    rw [hg7.block Z (by omega) (fun e => by have := (q3''.lt Z e.symm).1; omega), b6.block Z (block_lt' q2)]; exact q2
                  have b7 : Below w4.heap.size w4 w7 := (q1.trans (b6.mono q1.size)).grown hg7 (Nat.le_trans q1.size b6.size) (fun j e => by have := (q3''.lt j e).1; omega)
                  have f7 : ∀ o, w7.frozen? ⟨Z, o, none⟩ = false := fun o => free_at z7
                  have c7 : w7.cell? ⟨Z, 7, none⟩ = some (.slice bo i caq) := cell_at z7 rfl
                  have z8 : (w7.setCell ⟨Z, 7, none⟩ (.slice bo2 (i + 1) caq2)).heap[Z]? = some (.cells #[.int .i64 1, .int .i64 0, .int .i64 0, .int .u64 0, .int .u64 0, .int .u64 0, .int .u64 0, .slice bo2 (i + 1) caq2] 26 (0, 0)) := set1' z7 _
                  have ho8 : (w7.setCell ⟨Z, 7, none⟩ (.slice bo2 (i + 1) caq2)).ownsRow (Z + 1) 26 8 (.slice bo2 (i + 1) caq2) (i + 1) (flat8 (List.replicate (i + 1) (t', .slice ao ls.length cap))) :=
                    ho7.kept (row := some Z) ⟨rfl, rfl, rfl, by simp, fun j hj hn2 => Below.heap_setCell _ _ _ _ (fun e => hn2 (by rw [e]))⟩ (.inr (fun e => by have := (ho7.lt Z e).1; omega))
                  have b8 : Below w4.heap.size w4 (w7.setCell ⟨Z, 7, none⟩ (.slice bo2 (i + 1) caq2)) := b7.setCell (p := ⟨Z, 7, none⟩) (by show w4.heap.size ≤ Z; omega) _
                  have H8 := Lib.hid (And.intro b8 (And.intro z8 ho8))
                  have H9 : Hid (lenAt Z (w7.setCell ⟨Z, 7, none⟩ (.slice bo2 (i + 1) caq2)) = i + 1) := Lib.hid (lenAt_eq z8)
                  have HRR := Lib.hid hr
                  rw [hW6] at HRR
                  have HLT := Lib.hid hlt
                  clear b6 g6 q3' x6 hsz6 q3'' ho7 hg7 el z7 b7 z8 ho8 b8 hr hW6 q1 q2 q3 hR9 HQ hm1 hlt hi
                  go_wp2_with (at_builtin; refine list_append_run rfl _ _ 24 rfl _ _ _ w7 rfl rfl HRR.out ?_)
                  exact ⟨⟨i + 1, bo2, caq2, HLT.out, H8⟩, by rw [H9.out]; have := HLT.out; omega⟩
                · have hii : ¬ (i : Int) < (k : Int) := by omega
                  have hik : i = k := by have := HK.out; omega
                  subst hik
                  have hlie : LiesL (fun _ => True) wr (.slice bo i caq) (List.replicate i t') := by
                    have := own_lies (ok := fun _ => True) (ps := List.replicate i (t', Value.slice ao ls.length cap)) (by rw [List.length_replicate]; exact q3) (by rw [List.length_replicate]; have := HK.out; have := HV.out; omega) (fun _ _ => trivial) (fun p hp => by
                      rw [List.mem_replicate] at hp
                      rw [hp.2, HT.out]
                      exact LW.out wr (PB.out _ (RP.out _ hR9)))
                    rw [show fsts (List.replicate i (t', Value.slice ao ls.length cap)) = List.replicate i t' by simp [fsts]] at this
                    exact this
                  have KSS := Lib.hid (KS.out i (.slice bo i caq) wr (PB.out _ (RP.out _ hR9)) (by rw [← HT.out]; exact hlie))
                  have IMM : Hid (∀ w9, Below wr.heap.size wr w9 → R w9) := Lib.hid fun w9 hb => RS.out _ _ hR9 hb
                  clear q1 q2 q3 hR9 HQ hm1 hlt hi hlie d0 d1 d2 d3 d4 d5 d6 d7
                  go_wp2_with (go_at_call 25; (with_reducible refine KSS.out.mono ?_); rintro e wa (⟨hc, rfl, hba⟩ | ⟨hc, pn, rfl, hba⟩))
                  · exact absurd HCS.out.1 hc
                  have KN := Lib.hid (KI.out pn _ wa r hba.out.1 HCS.out.2)
                  have hRa := IMM.out _ hba.out.2
                  clear hba hc
                  cases r
                  · go_wp2_with (go_at_call 26; (with_reducible refine KN.out.mono ?_); rintro e wb ⟨rfl, hbb⟩)
                    exact ⟨HEND.out _ (RS.out _ _ hRa hbb.out), HMEAS.out⟩
                  · go_wp2_with (go_at_call 26; (with_reducible refine KN.out.mono ?_); rintro e wb ⟨rfl, hbb⟩)
                    exact ⟨HEND.out _ (RS.out _ _ hRa hbb.out), HMEAS.out⟩
            · go_wp2_with (go_at_call 26; (with_reducible refine KM.out.mono ?_); rintro e w4 ⟨rfl, hb4⟩; have hR4 := RS.out _ _ hR3 hb4.out; clear hR3 hb4)
              -- the row of as many, put together
              obtain ⟨Z, hZ⟩ : ∃ Z, Z = w4.heap.size := ⟨_, rfl⟩
              obtain ⟨W5, hW5⟩ : ∃ W5, W5 = w4.alloc (.cells #[.int .i64 1, .int .i64 0, .int .i64 0, .int .u64 0, .int .u64 0, .int .u64 0, .int .u64 0, .slice none 0 0] 26) := ⟨_, rfl⟩
              have b5 : Below w4.heap.size w4 W5 := by rw [hW5]; exact below_new w4 _
              have z5 : W5.heap[Z]? = some (.cells #[.int .i64 1, .int .i64 0, .int .i64 0, .int .u64 0, .int .u64 0, .int .u64 0, .int .u64 0, .slice none 0 0] 26 (0, 0)) := by rw [hW5, hZ]; exact heap_alloc_new w4 _
              rw [← hW5]
              have hZZ : w4.heap.size = Z := hZ.symm
              have H5 := Lib.hid (And.intro b5 (And.intro z5 (show W5.heap.size = Z + 1 by rw [hW5, hZ]; simp)))
              have H4 := Lib.hid hR4
              have HZ := Lib.hid hZ
              clear b5 z5 hW5 hZ hR4
              rw [hZZ]
              go_loopw [67] (fun o wq => ∃ (i : Nat) (bo : Option Addr) (caq : Nat), i ≤ k ∧ Hid (Below w4.heap.size w4 wq ∧ wq.heap[Z]? = some (.cells #[.int .i64 1, .int .i64 0, .int .i64 0, .int .u64 0, .int .u64 0, .int .u64 0, .int .u64 0, .slice bo i caq] 26 (0, 0)) ∧ wq.ownsRow (Z + 1) 26 8 (.slice bo i caq) i (flat8 (List.replicate i (t', .slice ao ls.length cap))))) (fun _ wq => k - lenAt Z wq)
              case atStart => exact ⟨0, none, 0, Nat.zero_le _, Lib.hid ⟨H5.out.1, H5.out.2.1, World.ownsRow_nil _ _ _ _⟩⟩
              case round =>
                obtain ⟨i, bo, caq, hi, HQ⟩ := hrel
                obtain ⟨q1, q2, q3⟩ := HQ.out
                have hR9 := RS.out _ _ H4.out q1
                obtain ⟨d0, d1, d2, d3, d4, d5, d6, d7⟩ := PC.out _ (RP.out _ hR9)
                obtain ⟨e0, e1, e2, e3, e4, e5, e6, e7⟩ := cells8_at q2
                have ef : ∀ o, wr.frozen? ⟨Z, o, none⟩ = false := fun o => free_at q2
                have hm1 : lenAt Z wr = i := lenAt_eq q2
                rw [hm1]
                by_cases hlt : i < k
                · have hii : (i : Int) < (k : Int) := by omega
                  obtain ⟨W6, hW6⟩ : ∃ W6, W6 = wr.alloc (.cells #[.int .i64 tk, .int .i64 tmn, .int .i64 tmx, .int .u64 t0, .int .u64 t1, .int .u64 t2, .int .u64 t3, .slice ao ls.length cap] 26) := ⟨_, rfl⟩
                  have b6 : Below wr.heap.size wr W6 := by rw [hW6]; exact below_new wr _
                  have g6 : wr.grownBy W6 none := ⟨b6.os, b6.tape, b6.output, b6.size, fun i hi _ => b6.block i hi⟩
                  have q3' := q3.kept g6 (by cases (Value.slice bo i caq).ownBlock <;> simp)
                  have x6 : W6.heap[wr.heap.size]? = some (.cells (t'.cells (.slice ao ls.length cap)) 26 (0, 0)) := by rw [hW6, HT.out]; exact heap_alloc_new wr _
                  have hsz6 : Z + 1 ≤ W6.heap.size := by have := block_lt' q2; have := b6.size; omega
                  have q3'' : W6.ownsRow (Z + 1) 26 8 (.slice bo i caq) (List.replicate i (t', Value.slice ao ls.length cap)).length (flat8 (List.replicate i (t', .slice ao ls.length cap))) := by rw [List.length_replicate]; exact q3'
                  obtain ⟨bo2, caq2, w7, hr, ho7, hg7, -⟩ := push8 (w := W6) (ps := List.replicate i (t', Value.slice ao ls.length cap)) t' (.slice ao ls.length cap) 24 q3'' x6 rfl (by rw [List.length_replicate]; have := HK.out; have := HV.out; omega) hsz6
                  have el : (List.replicate i (t', Value.slice ao ls.length cap) ++ [(t', Value.slice ao ls.length cap)]) = List.replicate (i + 1) (t', Value.slice ao ls.length cap) := by rw [List.replicate_succ']
                  rw [el, List.length_replicate] at ho7 hr
                  have z7 : w7.heap[Z]? = some (.cells #[.int .i64 1, .int .i64 0, .int .i64 0, .int .u64 0, .int .u64 0, .int .u64 0, .int .u64 0, .slice bo i caq] 26 (0, 0)) := by
                    rw [hg7.block Z (by omega) (fun e => by have := (q3''.lt Z e.symm).1; omega), b6.block Z (block_lt' q2)]; exact q2
                  have b7 : Below w4.heap.size w4 w7 := (q1.trans (b6.mono q1.size)).grown hg7 (Nat.le_trans q1.size b6.size) (fun j e => by have := (q3''.lt j e).1; omega)
                  have f7 : ∀ o, w7.frozen? ⟨Z, o, none⟩ = false := fun o => free_at z7
                  have c7 : w7.cell? ⟨Z, 7, none⟩ = some (.slice bo i caq) := cell_at z7 rfl
                  have z8 : (w7.setCell ⟨Z, 7, none⟩ (.slice bo2 (i + 1) caq2)).heap[Z]? = some (.cells #[.int .i64 1, .int .i64 0, .int .i64 0, .int .u64 0, .int .u64 0, .int .u64 0, .int .u64 0, .slice bo2 (i + 1) caq2] 26 (0, 0)) := set1' z7 _
                  have ho8 : (w7.setCell ⟨Z, 7, none⟩ (.slice bo2 (i + 1) caq2)).ownsRow (Z + 1) 26 8 (.slice bo2 (i + 1) caq2) (i + 1) (flat8 (List.replicate (i + 1) (t', .slice ao ls.length cap))) :=
                    ho7.kept (row := some Z) ⟨rfl, rfl, rfl, by simp, fun j hj hn2 => Below.heap_setCell _ _ _ _ (fun e => hn2 (by rw [e]))⟩ (.inr (fun e => by have := (ho7.lt Z e).1; omega))
                  have b8 : Below w4.heap.size w4 (w7.setCell ⟨Z, 7, none⟩ (.slice bo2 (i + 1) caq2)) := b7.setCell (p := ⟨Z, 7, none⟩) (by show w4.heap.size ≤ Z; omega) _
                  have H8 := Lib.hid (And.intro b8 (And.intro z8 ho8))
                  have H9 : Hid (lenAt Z (w7.setCell ⟨Z, 7, none⟩ (.slice bo2 (i + 1) caq2)) = i + 1) := Lib.hid (lenAt_eq z8)
                  have HRR := Lib.hid hr
                  rw [hW6] at HRR
                  have HLT := Lib.hid hlt
                  clear b6 g6 q3' x6 hsz6 q3'' ho7 hg7 el z7 b7 z8 ho8 b8 hr hW6 q1 q2 q3 hR9 HQ hm1 hlt hi
                  go_wp2_with (at_builtin; refine list_append_run rfl _ _ 24 rfl _ _ _ w7 rfl rfl HRR.out ?_)
                  exact ⟨⟨i + 1, bo2, caq2, HLT.out, H8⟩, by rw [H9.out]; have := HLT.out; omega⟩
                · have hii : ¬ (i : Int) < (k : Int) := by omega
                  have hik : i = k := by have := HK.out; omega
                  subst hik
                  have hlie : LiesL (fun _ => True) wr (.slice bo i caq) (List.replicate i t') := by
                    have := own_lies (ok := fun _ => True) (ps := List.replicate i (t', Value.slice ao ls.length cap)) (by rw [List.length_replicate]; exact q3) (by rw [List.length_replicate]; have := HK.out; have := HV.out; omega) (fun _ _ => trivial) (fun p hp => by
                      rw [List.mem_replicate] at hp
                      rw [hp.2, HT.out]
                      exact LW.out wr (PB.out _ (RP.out _ hR9)))
                    rw [show fsts (List.replicate i (t', Value.slice ao ls.length cap)) = List.replicate i t' by simp [fsts]] at this
                    exact this
                  have KSS := Lib.hid (KS.out i (.slice bo i caq) wr (PB.out _ (RP.out _ hR9)) (by rw [← HT.out]; exact hlie))
                  have IMM : Hid (∀ w9, Below wr.heap.size wr w9 → R w9) := Lib.hid fun w9 hb => RS.out _ _ hR9 hb
                  clear q1 q2 q3 hR9 HQ hm1 hlt hi hlie d0 d1 d2 d3 d4 d5 d6 d7
                  go_wp2_with (go_at_call 25; (with_reducible refine KSS.out.mono ?_); rintro e wa (⟨hc, rfl, hba⟩ | ⟨hc, pn, rfl, hba⟩))
                  · exact absurd HCS.out.1 hc
                  have KN := Lib.hid (KI.out pn _ wa r hba.out.1 HCS.out.2)
                  have hRa := IMM.out _ hba.out.2
                  clear hba hc
                  cases r
                  · go_wp2_with (go_at_call 26; (with_reducible refine KN.out.mono ?_); rintro e wb ⟨rfl, hbb⟩)
                    exact ⟨HEND.out _ (RS.out _ _ hRa hbb.out), HMEAS.out⟩
                  · go_wp2_with (go_at_call 26; (with_reducible refine KN.out.mono ?_); rintro e wb ⟨rfl, hbb⟩)
                    exact ⟨HEND.out _ (RS.out _ _ hRa hbb.out), HMEAS.out⟩
        · have hki : ¬ (k : Int) ≤ (hi : Int) := by omega
          have hall := all_one (t := t') (lo := lo) (hi := hi) s.data.toList HV.out.1 HV.out.2 HC.out
          rw [show hi + 1 - lo = n by omega, hone.out, ← HMA.out] at hall
          have KL := Lib.hid (KI.out pa Ma wr b (RI.out _ hRw) hall)
          clear hn hk hle hall hone
          go_wp2_with (go_at_call 26; (with_reducible refine KL.out.mono ?_); rintro e w3 ⟨rfl, hb3⟩)
          go_ret
          exact ⟨by simp, PB.out _ (RP.out _ (RS.out _ _ hRw hb3.out))⟩
  · have g : decide (x0 < 0) = true ∨ (decide (x0 < 0) = false ∧ (decide (x1 < x0) = true ∨ (decide (x1 < x0) = false ∧ decide (15 < x1) = true))) := by
      by_cases a : x0 < 0
      · exact .inl (decide_eq_true a)
      · by_cases b : x1 < x0
        · exact .inr ⟨decide_eq_false a, .inl (decide_eq_true b)⟩
        · exact .inr ⟨decide_eq_false a, .inr ⟨decide_eq_false b, decide_eq_true (by omega)⟩⟩
    clear hv
    rcases g with g | ⟨g0, g | ⟨g1, g⟩⟩ <;>
    · go_wp2_with (go_at_call 12; (with_reducible refine (PF.out _ hP1).mono ?_); rintro e w1 ⟨rfl, hP2⟩; clear hP1)
      go_ret
      exact ⟨rfl, PB.out _ hP2⟩
end Go.Proofs.Ytdmajbdgjjmlkaa
