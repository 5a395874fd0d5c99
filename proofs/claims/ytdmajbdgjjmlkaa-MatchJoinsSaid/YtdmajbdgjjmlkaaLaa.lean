/- What laying an alternative's states leaves: the call's contract, if laying each element has its. Conditions: the machine lies in memory, the elements too, ahead of it; there is room. -/
import Derived.Test.YtdmajbdgjjmlkaaLae
namespace Go.Proofs.Ytdmajbdgjjmlkaa
open Go.RowKit
set_option linter.unusedVariables false
set_option linter.unusedSimpArgs false

set_option maxRecDepth 100000 in
set_option maxHeartbeats 4000000 in
theorem any_lay (l : List Rx) (HX : ∀ x ∈ l, LayC x) (hx0 : ∀ x ∈ l, sizeR x ≠ 0) (hx1 : ∀ x ∈ l, sizeR x < 257) (n0 p : Nat) (M : Mac) (w : World) (v : Value) (nx : Nat) (h : IsM n0 p M w) (hl : LiesL (· < n0) w v l) (hroom : M.sts.length + sumR l + 1 ≤ 257) (hnx : nx < M.sts.length) :
    Calls Try.prog 44 #[.pointer (some ⟨p, 0, none⟩), v, .int .i64 (nx : Nat)] w (LayPost n0 p M ((layA l nx 0 M.sts).2.length, (layA l nx 0 M.sts).2 ++ [⟨0, 0, 0, 0, (layA l nx 0 M.sts).1⟩]) w) := by
  obtain ⟨X, hX⟩ : ∃ X, X = w.heap.size := ⟨_, rfl⟩
  have hzz : w.heap.size = X := hX.symm
  obtain ⟨L, beg⟩ := M
  dsimp only at *
  obtain ⟨R, hR⟩ : ∃ R, R = layA l nx 0 L := ⟨_, rfl⟩
  rw [← hR]
  have hn0 : n0 ≤ X := by rw [hX]; exact Nat.le_trans h.base (Nat.le_of_lt h.lt)
  have hpX : p < X := by rw [hX]; exact h.lt
  cases hl with
  | mk ao cap l sl few cell inner =>
  have hfew : l.length ≤ 257 := by
    have : ∀ l : List Rx, (∀ x ∈ l, sizeR x ≠ 0) → l.length ≤ sumR l := by
      intro l
      induction l with
      | nil => intro _; exact Nat.le_refl _
      | cons x l ih =>
        intro h
        have h1 := h x (by simp)
        have h2 := ih (fun y hy => h y (by simp [hy]))
        rw [List.length_cons, sumR]; omega
    have := this l hx0
    omega
  have hli : (l.length : Int) ≤ 257 := by omega
  -- an element, in any later world
  have EL : Hid (∀ i (hi : i < l.length) w1, Oth n0 p w w1 → (∃ a, ao = some a ∧ ∀ j u, (l[i].cells (sl i))[j]? = some u → w1.cell? (a.add (i * 8 + j)) = some u) ∧ LiesL (· < n0) w1 (sl i) l[i].list) := Lib.hid fun i hi w1 ho => by
    obtain ⟨a, h1, h2, h3, h4⟩ := cell i hi
    refine ⟨⟨a, h1, fun j u hu => ?_⟩, (inner i hi).oth ho⟩
    rw [ho.below.cell (p := a.add (i * 8 + j)) (by rw [add_block]; exact h2)]
    exact h4 j u hu
  have LC : Hid (∀ i (hi : i < l.length) (K : List Sta) w1, IsM n0 p ⟨K, beg⟩ w1 → LiesL (· < n0) w1 (sl i) l[i].list → K.length + sizeR l[i] ≤ 257 → nx < K.length → Calls Try.prog 30 #[.pointer (some ⟨p, 0, none⟩), l[i].val (sl i), .int .i64 (nx : Nat)] w1 (LayPost n0 p ⟨K, beg⟩ (layR l[i] nx K) w1)) := Lib.hid fun i hi K w1 a b c d =>
    HX l[i] (List.getElem_mem hi) n0 p ⟨K, beg⟩ w1 (sl i) nx a b c d
  have LK : Hid (∀ i (hi : i < l.length) (K : List Sta), nx < K.length → (layR l[i] nx K).1 < (layR l[i] nx K).2.length ∧ K.length ≤ (layR l[i] nx K).2.length ∧ (layR l[i] nx K).2.length ≤ K.length + sizeR l[i]) := Lib.hid fun i hi K hn => by
    have a := layR_ok l[i] (hx0 _ (List.getElem_mem hi)) K nx (by omega) hn
    exact ⟨a.at_, a.len, layR_len l[i] (hx0 _ (List.getElem_mem hi)) (hx1 _ (List.getElem_mem hi)) nx K⟩
  obtain ⟨W0, hW0⟩ : ∃ W0, W0 = w.alloc (.cells #[.int .u64 0, .int .u64 0, .int .u64 0, .int .u64 0, .int .u64 0] 57) := ⟨_, rfl⟩
  have b0 : Below w.heap.size w W0 := by rw [hW0]; exact below_new w _
  have x0 : W0.heap[X]? = some (.cells (plc 0) 57 (0, 0)) := by rw [hW0, hX, plc_zero]; exact heap_alloc_new w _
  have ST := Lib.hid (And.intro x0 (And.intro (h.of_below b0) (Oth.of_below (n0 := n0) (p := p) b0 (by rw [← hX]; exact hn0))))
  have HW0 : Hid (w.alloc (.cells #[.int .u64 0, .int .u64 0, .int .u64 0, .int .u64 0, .int .u64 0] 57) = W0) := Lib.hid hW0.symm
  have HR := Lib.hid hR
  have HQ := Lib.hid (And.intro hroom (And.intro hnx (And.intro hn0 hpX)))
  have WI := Lib.hid (fun P i (hi : i < 320) w => pwith_any P i hi w)
  unfold plc at WI
  have HZ := Lib.hid hzz
  clear h hroom hnx HX hx0 hx1 cell inner few hX hR hn0 hpX hW0 b0 x0 hfew
  go_enter Try.func44, Try.ntmps44
  go_wp2_with fail
  rw [HW0.out]
  go_loopw [12] (fun i wr => ∃ (j bs : Nat) (K : List Sta), j ≤ l.length ∧ i = .int .i64 (j : Nat) ∧ Hid ((wr.heap[X]? = some (.cells (plc bs) 57 (0, 0)) ∧ IsM n0 p ⟨K, beg⟩ wr ∧ Oth n0 p w wr) ∧ nx < K.length ∧ K.length + sumR (l.drop j) + 1 ≤ 257 ∧ layA (l.drop j) nx bs K = R)) (fun i _ => l.length - (intOf i).toNat)
  case atStart => exact ⟨0, 0, L, Nat.zero_le _, rfl, Lib.hid ⟨ST.out, HQ.out.2.1, HQ.out.1, HR.out.symm⟩⟩
  case round =>
    obtain ⟨j, bs, K, hj, rfl, HH⟩ := hrel
    obtain ⟨⟨q1, q2, q3⟩, q4, q5, q6⟩ := HH.out
    by_cases hlt : j < l.length
    · have hji : (j : Int) < (l.length : Int) := by omega
      have hd := List.drop_eq_getElem_cons hlt
      rw [hd, sumR] at q5
      have q6' : layA (l.drop (j + 1)) nx (bs ||| bitN (layR l[j] nx K).1) (layR l[j] nx K).2 = R := by
        rw [← q6, hd]; rfl
      obtain ⟨⟨a, rfl, hcell⟩, hlies⟩ := EL.out j hlt wr q3
      have lc := LC.out j hlt K
      obtain ⟨k1, k2, k3⟩ := LK.out j hlt K q4
      generalize l[j] = t at *
      obtain ⟨kk, mn, mx, t0, t1, t2, t3, ls⟩ := t
      obtain ⟨r0, r1, r2, r3, r4, r5, r6, r7⟩ := eight (w := wr) (wr := wr) hcell (by
        have := hcell 0 _ rfl
        have := World.block_lt_of_cell? wr _ this
        rwa [add_block] at this) (Below.refl _ _)
      generalize sl j = sv at *
      obtain ⟨ao2, cap2, rfl⟩ := hlies.value
      obtain ⟨r, hr⟩ : ∃ r, r = layR (.mk kk mn mx t0 t1 t2 t3 ls) nx K := ⟨_, rfl⟩
      rw [← hr] at lc q6' k1 k2 k3
      obtain ⟨B8, hB8⟩ : ∃ B8 : Array Value, B8 = #[.int .i64 kk, .int .i64 mn, .int .i64 mx, .int .u64 t0, .int .u64 t1, .int .u64 t2, .int .u64 t3, .slice ao2 (Rx.mk kk mn mx t0 t1 t2 t3 ls).list.length cap2] := ⟨_, rfl⟩
      obtain ⟨W1, hW1⟩ : ∃ W1, W1 = wr.alloc (.cells B8 26) := ⟨_, rfl⟩
      have b1 : Below wr.heap.size wr W1.drew := by rw [hW1]; exact (below_new wr _).drew
      obtain ⟨Y, hY⟩ : ∃ Y, Y = wr.heap.size := ⟨_, rfl⟩
      have y1 : W1.drew.heap[Y]? = some (.cells B8 26 (0, 0)) := by rw [hW1, hY]; exact heap_alloc_new wr _
      have hn0 := HQ.out.2.2.1
      have hpX := HQ.out.2.2.2
      have hsz : n0 ≤ wr.heap.size := Nat.le_trans q2.base (Nat.le_of_lt q2.lt)
      have O1 : Oth n0 p wr W1.drew := Oth.of_below b1 hsz
      have x1 := O1.keep q1 (by omega) (by decide)
      have KL := lc W1.drew (q2.of_below b1) (hlies.oth O1) (by show K.length + _ ≤ 257; omega) q4
      unfold LayPost at KL
      dsimp only at KL
      unfold Rx.val Rx.cells cellsX at KL
      dsimp only at KL
      have KLH := Lib.hid KL
      have hr320 : r.1 < 320 := by omega
      have WJ := Lib.hid (WI.out bs r.1 hr320)
      have G1 : Hid (∀ w2, IsM n0 p ⟨r.2, beg⟩ w2 → Oth n0 p W1.drew w2 → w2.heap[X]? = some (.cells (plc bs) 57 (0, 0)) ∧ w2.heap[Y]? = some (.cells B8 26 (0, 0)) ∧ Oth n0 p w w2) := Lib.hid fun w2 i o =>
        ⟨o.keep x1 (by omega) (by decide), o.keep y1 (by have := q2.lt; omega) (by decide), q3.trans (O1.trans o)⟩
      have G2 : Hid (∀ w2, IsM n0 p ⟨r.2, beg⟩ w2 → Oth n0 p w w2 → w2.heap[X]? = some (.cells (plc bs) 57 (0, 0)) → ∀ w3, Below w2.heap.size w2 w3 → w3.heap[X]? = some (.cells (plc bs) 57 (0, 0)) ∧ IsM n0 p ⟨r.2, beg⟩ w3 ∧ Oth n0 p w w3) := Lib.hid fun w2 i o x w3 hb =>
        ⟨(hb.block _ (block_lt' x)).trans x, i.of_below hb, o.trans (Oth.of_below hb (Nat.le_trans i.base (Nat.le_of_lt i.lt)))⟩
      have G3 : Hid (∀ w3, w3.heap[X]? = some (.cells (plc bs) 57 (0, 0)) → IsM n0 p ⟨r.2, beg⟩ w3 → Oth n0 p w w3 → ∀ P, (put5 w3 X P).heap[X]? = some (.cells (plc P) 57 (0, 0)) ∧ IsM n0 p ⟨r.2, beg⟩ (put5 w3 X P) ∧ Oth n0 p w (put5 w3 X P)) := Lib.hid fun w3 x i o P =>
        ⟨put5_row x, i.putp x, o.putp hn0 (by have := HZ.out; omega)⟩
      obtain ⟨e0, e1, e2, e3, e4, e5, e6, e7⟩ := cells8_at (by rw [hB8] at y1; exact y1)
      obtain ⟨d0, d1, d2, d3, d4, df⟩ := plc_at x1
      have HW1 : Hid (wr.alloc (.cells #[.int .i64 kk, .int .i64 mn, .int .i64 mx, .int .u64 t0, .int .u64 t1, .int .u64 t2, .int .u64 t3, .slice ao2 (Rx.mk kk mn mx t0 t1 t2 t3 ls).list.length cap2] 26) = W1) := Lib.hid (by rw [hW1, hB8])
      have HB8 := Lib.hid hB8
      have HN := Lib.hid (And.intro hlt (And.intro (show nx < r.2.length by omega) (And.intro (show r.2.length + sumR (l.drop (j + 1)) + 1 ≤ 257 by omega) q6')))
      have hy : wr.heap.size = Y := hY.symm
      dsimp only [Rx.list] at *
      clear q1 q2 q3 q4 q5 q6 q6' hd lc k1 k2 k3 hr hW1 hY b1 y1 hsz O1 x1 KL hr320 hcell hlies hB8 hj hlt HH df hn0 hpX
      go_wp2_with fail
      rw [HW1.out]
      go_region_with (first
        | (go_at_call 30; (with_reducible refine KLH.out.mono ?_); rintro e w2 ⟨rfl, hi, ho⟩; obtain ⟨g1, g2, g3⟩ := G1.out _ hi ho; have N2 := Lib.hid (G2.out _ hi g3 g1); obtain ⟨u0, u1, u2, u3, u4, uf⟩ := plc_at g1; clear hi ho g1 g2 g3)
        | (go_at_call 29; (with_reducible refine (WJ.out _).mono ?_); rintro e w3 ⟨rfl, hb3⟩; obtain ⟨k1, k2, k3⟩ := N2.out _ hb3; have N3 := Lib.hid (G3.out _ k1 k2 k3); obtain ⟨v0, v1, v2, v3, v4, vf⟩ := plc_at k1; clear k1 k2 k3 hb3))
      all_goals
        go_wp2
        exact ⟨⟨j + 1, bs ||| bitN r.1, r.2, HN.out.1, by go_num, Lib.hid ⟨N3.out _, HN.out.2⟩⟩, by simp [intOf]; have := HN.out.1; omega⟩
    · have hjl : j = l.length := by omega
      subst hjl
      rw [List.drop_length] at q6
      have e6 : (bs, K) = R := q6
      obtain ⟨d0, d1, d2, d3, d4, df⟩ := plc_at q1
      have AK := Lib.hid (add_any n0 p ⟨K, beg⟩ ⟨0, 0, 0, 0, bs⟩ (by show K.length ≤ 1000; omega) wr q2)
      have e9 : (staV ⟨0, 0, 0, 0, bs⟩).toArray = #[Value.int .u64 0, .int .u64 0, .int .u64 0, .int .u64 0, .int .u64 (pw bs 0 : Nat), .int .u64 (pw bs 1 : Nat), .int .u64 (pw bs 2 : Nat), .int .u64 (pw bs 3 : Nat), .int .u64 (pw bs 4 : Nat)] := rfl
      rw [e9] at AK
      have HO := Lib.hid q3
      have H7 := Lib.hid e6
      dsimp only at AK
      clear q1 q2 q3 q4 q5 q6 e6 HH hlt hj e9
      go_wp2_with (go_at_call 43; (with_reducible refine AK.out.mono ?_); rintro e w1 ⟨rfl, hi, ho⟩; have HI := Lib.hid hi; have HOO := Lib.hid ho; clear hi ho)
      go_ret
      rw [← H7.out]
      exact ⟨rfl, HI.out, HO.out.trans HOO.out⟩
end Go.Proofs.Ytdmajbdgjjmlkaa
