/- What laying a row's states leaves: the call's contract, if laying each element has its. Conditions: the machine lies in memory, the elements too, ahead of it; there is room. -/
import Derived.Test.YtdmajbdgjjmlkaaLaa
namespace Go.Proofs.Ytdmajbdgjjmlkaa
open Go.RowKit
set_option linter.unusedVariables false
set_option linter.unusedSimpArgs false

theorem layS_snoc : ∀ (l : List Rx) (x : Rx) (nx : Nat) (L : List Sta), layS (l ++ [x]) nx L = layS l (layR x nx L).1 (layR x nx L).2
  | [], x, nx, L => rfl
  | y :: l, x, nx, L => by
    have e : layS (y :: l ++ [x]) nx L = layR y (layS (l ++ [x]) nx L).1 (layS (l ++ [x]) nx L).2 := rfl
    rw [e, layS_snoc l x nx L]
    rfl
theorem sumR_snoc : ∀ (l : List Rx) (x : Rx), sumR (l ++ [x]) = sumR l + sizeR x
  | [], x => by simp [sumR]
  | y :: l, x => by rw [List.cons_append, sumR, sumR_snoc l x, sumR]; omega
/-- an element of a list that lies there -/
theorem LiesL.elem {ok : Nat → Prop} {w : World} {v : Value} {l : List Rx} (h : LiesL ok w v l) : ∀ i (hi : i < l.length), ∃ a cap v', v = .slice (some a) l.length cap ∧ ok a.block ∧ a.block < w.heap.size ∧ (∀ j u, (l[i].cells v')[j]? = some u → w.cell? (a.add (i * 8 + j)) = some u) ∧ LiesL ok w v' l[i].list := by
  cases h with
  | mk ao cap l sl few cell inner =>
    intro i hi
    obtain ⟨a, rfl, h1, h2, h3⟩ := cell i hi
    exact ⟨a, cap, sl i, rfl, h1, h2, h3, inner i hi⟩
set_option maxRecDepth 100000 in
set_option maxHeartbeats 4000000 in
theorem seq_lay (k mn mx s0 s1 s2 s3 : Int) (l : List Rx) (k0 : k ≠ 0) (k2 : k ≠ 2) (k3 : k ≠ 3) (HX : ∀ x ∈ l, LayC x) (hx0 : ∀ x ∈ l, sizeR x ≠ 0) (hx1 : ∀ x ∈ l, sizeR x < 257) (n0 p : Nat) (L : List Sta) (beg : Nat) (w : World) (ao : Option Addr) (cap nx : Nat) (h : IsM n0 p ⟨L, beg⟩ w) (hl : LiesL (· < n0) w (.slice ao l.length cap) l) (hroom : L.length + sumR l ≤ 257) (hnx : nx < L.length) :
    Calls Try.prog 30 #[.pointer (some ⟨p, 0, none⟩), .agg #[.int .i64 k, .int .i64 mn, .int .i64 mx, .int .u64 s0, .int .u64 s1, .int .u64 s2, .int .u64 s3, .slice ao l.length cap], .int .i64 (nx : Nat)] w (LayPost n0 p ⟨L, beg⟩ (layS l nx L) w) := by
  obtain ⟨X, hX⟩ : ∃ X, X = w.heap.size := ⟨_, rfl⟩
  have hzz : w.heap.size = X := hX.symm
  have hn0 : n0 ≤ X := by rw [hX]; exact Nat.le_trans h.base (Nat.le_of_lt h.lt)
  have hpX : p < X := by rw [hX]; exact h.lt
  have hfew : l.length ≤ 257 := by
    have : ∀ l : List Rx, (∀ x ∈ l, sizeR x ≠ 0) → l.length ≤ sumR l := by
      intro l
      induction l with
      | nil => intro _; exact Nat.le_refl _
      | cons x l ih =>
        intro h
        have h1 := h x (by simp)
        have h2 := ih (fun y hy => h y (by simp [hy]))
        rw [List.length_cons, sumR]; omega
    have := this l hx0
    omega
  have hli : (l.length : Int) ≤ 257 := by omega
  obtain ⟨B8, hB8⟩ : ∃ B8 : Array Value, B8 = #[.int .i64 k, .int .i64 mn, .int .i64 mx, .int .u64 s0, .int .u64 s1, .int .u64 s2, .int .u64 s3, .slice ao l.length cap] := ⟨_, rfl⟩
  obtain ⟨W0, hW0⟩ : ∃ W0, W0 = w.alloc (.cells B8 26) := ⟨_, rfl⟩
  have b0 : Below w.heap.size w W0 := by rw [hW0]; exact below_new w _
  have x0 : W0.heap[X]? = some (.cells B8 26 (0, 0)) := by rw [hW0, hX]; exact heap_alloc_new w _
  have m0 := h.of_below b0
  have o0 : Oth n0 p w W0 := Oth.of_below b0 (by rw [← hX]; exact hn0)
  obtain ⟨c0, c1, c2, c3, c4, c5, c6, c7⟩ := cells8_at (w := W0) (X := X) (by rw [hB8] at x0; exact x0)
  have HW0 : Hid (w.alloc (.cells #[.int .i64 k, .int .i64 mn, .int .i64 mx, .int .u64 s0, .int .u64 s1, .int .u64 s2, .int .u64 s3, .slice ao l.length cap] 26) = W0) := Lib.hid (by rw [hW0, hB8])
  obtain ⟨R, hR⟩ : ∃ R, R = layS l nx L := ⟨_, rfl⟩
  rw [← hR]
  have HR := Lib.hid hR
  have HQ := Lib.hid (And.intro hroom (And.intro hnx (And.intro hn0 (And.intro hpX (And.intro x0 (And.intro m0 o0))))))
  have HB8 := Lib.hid hB8
  have EL : Hid (∀ i (hi : i < l.length) w1, Oth n0 p w w1 → ∃ a v', ao = some a ∧ a.block < w1.heap.size ∧ (∀ j u, (l[i].cells v')[j]? = some u → w1.cell? (a.add (i * 8 + j)) = some u) ∧ LiesL (· < n0) w1 v' l[i].list) := Lib.hid fun i hi w1 ho => by
    obtain ⟨a, cap', v', hv, _, hab, hc, hll⟩ := (hl.oth ho).elem i hi
    exact ⟨a, v', (Value.slice.inj hv).1, hab, hc, hll⟩
  have LC : Hid (∀ i (hi : i < l.length) (nx : Nat) (K : List Sta) (v' : Value) w1, IsM n0 p ⟨K, beg⟩ w1 → LiesL (· < n0) w1 v' l[i].list → K.length + sizeR l[i] ≤ 257 → nx < K.length → Calls Try.prog 30 #[.pointer (some ⟨p, 0, none⟩), l[i].val v', .int .i64 (nx : Nat)] w1 (LayPost n0 p ⟨K, beg⟩ (layR l[i] nx K) w1)) := Lib.hid fun i hi nx K v' w1 a b c d =>
    HX l[i] (List.getElem_mem hi) n0 p ⟨K, beg⟩ w1 v' nx a b c d
  have LK : Hid (∀ i (hi : i < l.length) (nx : Nat) (K : List Sta), 0 < K.length → nx < K.length → (layR l[i] nx K).1 < (layR l[i] nx K).2.length ∧ K.length ≤ (layR l[i] nx K).2.length ∧ (layR l[i] nx K).2.length ≤ K.length + sizeR l[i]) := Lib.hid fun i hi nx K h0 hn => by
    have a := layR_ok l[i] (hx0 _ (List.getElem_mem hi)) K nx h0 hn
    exact ⟨a.at_, a.len, layR_len l[i] (hx0 _ (List.getElem_mem hi)) (hx1 _ (List.getElem_mem hi)) nx K⟩
  have d0 : (k == 0) = false := by simpa using k0
  have d2 : (k == 2) = false := by simpa using k2
  have d3 : (k == 3) = false := by simpa using k3
  clear h hl hroom hnx HX hx0 hx1 hX hn0 hpX hfew hB8 hW0 b0 x0 m0 o0 hR
  go_enter Try.func30, Try.ntmps30
  go_wp2_with fail
  rw [HW0.out]
  go_wp2_with fail
  go_loopw [55, 2] (fun i v wr => ∃ (j nx' : Nat) (K : List Sta), j ≤ l.length ∧ i = .int .i64 (j : Nat) ∧ v = .int .i64 (nx' : Nat) ∧ Hid ((wr.heap[X]? = some (.cells B8 26 (0, 0)) ∧ IsM n0 p ⟨K, beg⟩ wr ∧ Oth n0 p w wr) ∧ nx' < K.length ∧ K.length + sumR (l.take (l.length - j)) ≤ 257 ∧ layS (l.take (l.length - j)) nx' K = R)) (fun i _ _ => l.length - (intOf i).toNat)
  case atStart => exact ⟨0, nx, L, Nat.zero_le _, rfl, rfl, Lib.hid ⟨⟨HQ.out.2.2.2.2.1, HQ.out.2.2.2.2.2.1, HQ.out.2.2.2.2.2.2⟩, HQ.out.2.1, by rw [Nat.sub_zero, List.take_length]; exact HQ.out.1, by rw [Nat.sub_zero, List.take_length]; exact HR.out.symm⟩⟩
  case round =>
    obtain ⟨j, nx', K, hj, rfl, rfl, HH⟩ := hrel
    obtain ⟨⟨q1, q2, q3⟩, q4, q5, q6⟩ := HH.out
    by_cases hlt : j < l.length
    · have hji : (j : Int) < (l.length : Int) := by omega
      obtain ⟨m, hm⟩ : ∃ m, m = l.length - (j + 1) := ⟨_, rfl⟩
      have hml : m < l.length := by omega
      have him : (l.length : Int) - 1 - (j : Int) = (m : Int) := by omega
      have hmi : (m : Int) < (l.length : Int) := by omega
      have et : l.take (l.length - j) = l.take m ++ [l[m]] := by
        rw [show l.length - j = m + 1 by omega, List.take_succ_eq_append_getElem hml]
      rw [et, sumR_snoc] at q5
      rw [et, layS_snoc] at q6
      obtain ⟨a, v', rfl, hab, hcell, hlies⟩ := EL.out m hml wr q3
      have lc := LC.out m hml nx' K v' wr q2 hlies (by omega) q4
      obtain ⟨k1, k2, k3⟩ := LK.out m hml nx' K (by omega) q4
      generalize l[m] = t at *
      obtain ⟨kk, mn', mx', t0, t1, t2, t3, ls⟩ := t
      obtain ⟨r0, r1, r2, r3, r4, r5, r6, r7⟩ := eight (w := wr) (wr := wr) hcell hab (Below.refl _ _)
      obtain ⟨r, hr⟩ : ∃ r, r = layR (.mk kk mn' mx' t0 t1 t2 t3 ls) nx' K := ⟨_, rfl⟩
      rw [← hr] at lc q6 k1 k2 k3
      unfold LayPost Rx.val Rx.cells cellsX at lc
      dsimp only at lc
      have KLH := Lib.hid lc
      have hn0 := HQ.out.2.2.1
      have hpX := HQ.out.2.2.2.1
      have G1 : Hid (∀ w2, Oth n0 p wr w2 → w2.heap[X]? = some (.cells B8 26 (0, 0)) ∧ Oth n0 p w w2) := Lib.hid fun w2 o =>
        ⟨o.keep (w := wr) q1 (by omega) (by decide), q3.trans o⟩
      have e7 : wr.cell? ⟨X, 7, none⟩ = some (.slice (some a) l.length cap) := (cells8_at (w := wr) (by rw [HB8.out] at q1; exact q1)).2.2.2.2.2.2.2
      have HN := Lib.hid (And.intro hlt (And.intro k1 (And.intro (show r.2.length + sumR (l.take m) ≤ 257 by omega) (And.intro q6 hm))))
      clear q1 q2 q3 q4 q5 q6 lc k1 k2 k3 hr hcell hlies hj hlt HH hn0 hpX et hab hml hm
      go_wp2_with (go_at_call 30; (with_reducible refine KLH.out.mono ?_); rintro e w2 ⟨rfl, hi, ho⟩; have HI := Lib.hid hi; have HO := Lib.hid ho; clear hi ho)
      exact ⟨⟨j + 1, r.1, r.2, HN.out.1, by go_num, rfl, Lib.hid ⟨⟨(G1.out _ HO.out).1, HI.out, (G1.out _ HO.out).2⟩, HN.out.2.1, by rw [← HN.out.2.2.2.2]; exact HN.out.2.2.1, by rw [← HN.out.2.2.2.2]; exact HN.out.2.2.2.1⟩⟩, by simp [intOf]; have := HN.out.1; omega⟩
    · have hjl : j = l.length := by omega
      subst hjl
      rw [Nat.sub_self, List.take_zero] at q6
      have e6 : (nx', K) = R := q6
      have HN := Lib.hid (And.intro e6 (And.intro q2 q3))
      clear q1 q2 q3 q4 q5 q6 e6 HH hlt hj
      go_wp2
      go_ret
      rw [← HN.out.1]
      exact ⟨rfl, HN.out.2.1, HN.out.2.2⟩
end Go.Proofs.Ytdmajbdgjjmlkaa
