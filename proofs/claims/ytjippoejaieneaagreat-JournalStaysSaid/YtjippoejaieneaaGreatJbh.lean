/- A row of texts behind a transaction. Conditions: the writes are allowed. -/
import Derived.Test.YtjippoejaieneaaGreatJsm
namespace Go.Proofs.YtjippoejaieneaaGreat
open Go.RowKit Go.Maps
set_option maxRecDepth 20000
set_option linter.unusedVariables false

def bhL (l : List Bts) (tx : List Wt) : List Bts := tx.foldl (fun a y => a.set y.c.toNat (padB y.d.data.toList)) l
theorem bhL_len : ∀ (tx : List Wt) (l : List Bts), (bhL l tx).length = l.length
  | [], l => rfl
  | y :: r, l => by
    show (bhL (l.set _ _) r).length = _
    rw [bhL_len r]; simp
theorem bhL_take {l : List Bts} {tx : List Wt} {k : Nat} (h : k < tx.length) : bhL l (tx.take (k + 1)) = (bhL l (tx.take k)).set tx[k].c.toNat (padB tx[k].d.data.toList) := by
  rw [List.take_succ_eq_append_getElem h]
  unfold bhL
  rw [List.foldl_append]; rfl
theorem bhL_bhF {n : Nat} : ∀ (tx : List Wt) (f : Nat → Bts), bhL ((List.range n).map f) tx = (List.range n).map (bhF f tx)
  | [], f => rfl
  | y :: r, f => by
    show bhL (((List.range n).map f).set _ _) r = (List.range n).map (bhF _ r)
    rw [← bhL_bhF r]
    congr 1
    apply List.ext_getElem
    · simp
    · intro i h1 h2
      simp only [List.length_set, List.length_map, List.length_range] at h1
      rw [List.getElem_set]
      simp only [List.getElem_map, List.getElem_range]
      by_cases q : y.c.toNat = i
      · rw [if_pos q, if_pos q.symm]
      · rw [if_neg q, if_neg (fun z => q z.symm)]
/-- a row at a place of its own -/
def RowAt (W : World) (g cap : Nat) (l : List Bts) : Prop := ∃ cur : Array Value, W.heap[g]? = some (.cells cur 9 (0, 0)) ∧ cur.size = cap ∧ cur.toList.take l.length = l.map strV
theorem RowAt.cell {W : World} {g cap : Nat} {l : List Bts} (h : RowAt W g cap l) {n : Nat} (hn : n < l.length) : W.cell? ⟨g, n, none⟩ = some (.string (ofL l[n])) := by
  obtain ⟨cur, hg, hc, ht⟩ := h
  rw [cell_of_row _ _ n _ _ _ hg]
  have : (cur.toList.take l.length)[n]? = (l.map strV)[n]? := by rw [ht]
  rw [List.getElem?_take_of_lt hn, List.getElem?_map, List.getElem?_eq_getElem hn] at this
  simpa [strV] using this
theorem RowAt.set {W : World} {g cap : Nat} {l : List Bts} (h : RowAt W g cap l) {n : Nat} (hn : n < l.length) (d : Bts) : RowAt (W.setCell ⟨g, n, none⟩ (.string (ofL d))) g cap (l.set n d) := by
  obtain ⟨cur, hg, hc, ht⟩ := h
  refine ⟨_, block_setCell (o := n) (u := .string (ofL d)) hg, by simpa using hc, ?_⟩
  have hl : l.length ≤ cur.size := by
    have := congrArg List.length ht
    simp at this; omega
  rw [List.length_set, Array.toList_setIfInBounds, List.take_set, ht]
  exact (List.map_set ..).symm
theorem RowAt.free {W : World} {g cap : Nat} {l : List Bts} (h : RowAt W g cap l) (n : Nat) : W.frozen? ⟨g, n, none⟩ = false := by
  obtain ⟨cur, hg, hc, ht⟩ := h
  exact block_free hg
theorem RowAt.of_heap {W W' : World} {g cap : Nat} {l : List Bts} (h : RowAt W g cap l) (e : W'.heap[g]? = W.heap[g]?) : RowAt W' g cap l := by
  obtain ⟨cur, hg, r⟩ := h
  exact ⟨cur, e.trans hg, r⟩
theorem RowAt.lt {W : World} {g cap : Nat} {l : List Bts} (h : RowAt W g cap l) : g < W.heap.size := by
  obtain ⟨cur, hg, _⟩ := h
  exact block_lt hg
set_option maxHeartbeats 4000000 in
theorem behind_any (G : Nat → Prop) (base : Nat) (v vt : Value) (l : List Bts) (tx : List Wt) (w : World) (h : w.ownsRow base 9 1 v l.length (l.map strV)) (hn : l.length ≤ 8192) (h0 : 0 < l.length) (ht : WV w G vt tx) (htl : tx.length ≤ 4096)
    (hm : ∀ y ∈ tx, 0 ≤ y.c ∧ y.c < (l.length : Int) ∧ y.d.size ≤ 116) :
    Calls Tryz.prog 25 #[v, vt] w fun e w' => ∃ v', e = .returned v' ∧ w'.ownsRow w.heap.size 9 1 v' l.length ((bhL l tx).map strV) ∧ Below w.heap.size w w' := by
  obtain ⟨i0, hi, hz0, hz1, hz2⟩ := info_parts Tryz.info9
  obtain ⟨hlen, ⟨hv, hbad⟩ | ⟨g0, cap0, cur0, rfl, hb0, hg0, hn0, hc0, hs0, ht0⟩⟩ := h
  · omega
  obtain ⟨w1, hw1⟩ : ∃ w1, w1 = w.alloc (.cells #[] 9) := ⟨_, rfl⟩
  have HW1 : Hid (w.alloc (.cells #[] 9) = w1) := hw1.symm
  have hb1 : Below w.heap.size w w1 := by rw [hw1]; exact (Below.refl _ w).alloc (Nat.le_refl _) _
  have own1 : w1.ownsRow w.heap.size 9 1 (.slice (some ⟨w.heap.size, 0, none⟩) 0 0) 0 [] := by
    rw [hw1]
    exact ⟨by simp, .inr ⟨w.heap.size, 0, #[], rfl, Nat.le_refl _, block_new w _, Nat.le_refl _, Nat.zero_le _, by simp, by simp⟩⟩
  have hg1 : w1.heap[g0]? = some (.cells cur0 9 (0, 0)) := (hb1.block _ (block_lt hg0)).trans hg0
  obtain ⟨v', w2, hr, hown, hgr, _, hat⟩ := run_append_own_at (P := Tryz.prog) (w := w1) w.heap.size 55 55 9 i0 _ 1 16 Tryz.underlying55 hi hz0 hz1 hz2 rfl (by decide) _ _ _ own1 ⟨g0, 0, none⟩ l.length cap0 (l.map strV) (by simp) (fun j u hj => by
    rw [addr_at, Nat.zero_add, cell_of_row _ _ j _ _ _ hg1]
    rw [Nat.mul_one] at ht0
    rw [← ht0] at hj
    have hjl : j < l.length := by
      rcases Nat.lt_or_ge j l.length with z | z
      · exact z
      · rw [List.getElem?_eq_none (by simp; omega)] at hj; cases hj
    rw [List.getElem?_take_of_lt hjl] at hj
    simpa using hj) (fun u hu => by
    obtain ⟨d, _, rfl⟩ := List.mem_map.1 hu
    rfl) (by unfold maxLen; omega) (by omega) hb1.size
  rw [List.nil_append, Nat.zero_add] at hown
  have hb2 : Below w.heap.size w w2 := ⟨hgr.os.trans hb1.os, hgr.tape.trans hb1.tape, hgr.output.trans hb1.output, Nat.le_trans hb1.size hgr.size, fun k hk => (hgr.block k (Nat.lt_of_lt_of_le hk hb1.size) (fun e => by have : k = w.heap.size := Option.some.inj e; omega)).trans (hb1.block k hk)⟩
  obtain ⟨_, ⟨hv, hbad⟩ | ⟨g, cap, cur, rfl, hb, hg, hnc, hcm, hs, htk⟩⟩ := hown
  · omega
  obtain ⟨N, hN⟩ : ∃ N, N = l.length := ⟨_, rfl⟩
  obtain ⟨L, hL⟩ : ∃ L, L = tx.length := ⟨_, rfl⟩
  rw [Nat.mul_one] at hs htk
  have HR0 : Hid (RowAt w2 g cap (bhL l (tx.take 0))) := ⟨cur, hg, hs, htk⟩
  obtain ⟨qt, ct, rfl, htc, htx⟩ := ht
  have HT := Lib.hid htx
  have HM := Lib.hid hm
  have HB := Lib.hid hb
  have HB2 := Lib.hid hb2
  have HC := Lib.hid (And.intro hnc hcm)
  rw [← hN] at hr h0 hn hnc ⊢
  rw [← hL] at htc htl ⊢
  have HNN := Lib.hid hN
  have HLL := Lib.hid hL
  clear hN hL htx hm hb hb2 hg hs htk hcm hgr hat hg1 own1 hb1 hw1 hlen hs0 ht0 hz0 hz1 hz2 hi
  go_enter Tryz.func25, Tryz.ntmps25
  go_wp2_with (first
    | (rw [HW1.out])
    | (at_builtin; refine wpList_append_run rfl (.tmp 7) (.tmp 8) 55 rfl _ _ _ _ rfl rfl hr ?_))
  go_loopw [6] (fun i W => ∃ k : Nat, k ≤ L ∧ i = .int .i64 (k : Int) ∧ Hid (RowAt W g cap (bhL l (tx.take k))) ∧ Hid (Below w.heap.size w W)) (fun i _ => L - (RowKit.intOf i).toNat)
  case atStart => exact ⟨0, Nat.zero_le _, rfl, HR0.out, HB2.out⟩
  case round =>
    obtain ⟨k, hk, rfl, HR, HW⟩ := hrel
    by_cases hlt : k < L
    · have hki : (k : Int) < (L : Int) := by omega
      have hkt : k < tx.length := by have := HLL.out; omega
      obtain ⟨b, o, rfl, _, hbl, y0, y1⟩ := HT.out k hkt
      obtain ⟨m0, m1, m2⟩ := HM.out tx[k] (List.getElem_mem _)
      have hst := bhL_take (l := l) hkt
      obtain ⟨y, hy⟩ : ∃ y, y = tx[k] := ⟨_, rfl⟩
      rw [← hy] at y0 y1 m0 m1 m2 hst
      obtain ⟨n, hyn⟩ : ∃ n : Nat, y.c = (n : Int) := ⟨y.c.toNat, by omega⟩
      rw [hyn] at y0 m0 m1 hst
      rw [Int.toNat_natCast] at hst
      have hnN : n < N := by have := HNN.out; omega
      have hni : (n : Int) < (N : Int) := by omega
      have hnl : n < (bhL l (tx.take k)).length := by rw [bhL_len]; have := HNN.out; omega
      obtain ⟨D, hD⟩ : ∃ D, D = y.d := ⟨_, rfl⟩
      rw [← hD] at y1 m2 hst
      obtain ⟨O, hO⟩ : ∃ O, O = o + k * 2 := ⟨_, rfl⟩
      rw [← hO] at y0 y1
      have hOs : o + k * 2 = O := hO.symm
      have hDi : (D.size : Int) ≤ 116 := by omega
      have z0 := cell_below y0 HW.out
      have z1 := cell_below y1 HW.out
      obtain ⟨X, hX⟩ : ∃ X, X = ofL ((bhL l (tx.take k))[n]'hnl) := ⟨_, rfl⟩
      have hd0 : Below wr.heap.size wr wr.drew := below_drew (Below.refl _ wr)
      have HK : Hid (∀ w5, Below wr.heap.size wr w5 → w5.cell? ⟨b, O, none⟩ = some (.int .i64 (n : Int)) ∧ w5.cell? ⟨b, O + 1, none⟩ = some (.string D) ∧ w5.cell? ⟨g, n, none⟩ = some (.string X) ∧ w5.frozen? ⟨g, n, none⟩ = false ∧
          (w5.setCell ⟨g, n, none⟩ (.string (ofL (padB D.data.toList)))).cell? ⟨b, O, none⟩ = some (.int .i64 (n : Int)) ∧ (w5.setCell ⟨g, n, none⟩ (.string (ofL (padB D.data.toList)))).cell? ⟨b, O + 1, none⟩ = some (.string D) ∧ (w5.setCell ⟨g, n, none⟩ (.string (ofL (padB D.data.toList)))).frozen? ⟨g, n, none⟩ = false ∧ RowAt (w5.setCell ⟨g, n, none⟩ (.string (ofL (padB D.data.toList)))) g cap (bhL l (tx.take (k + 1))) ∧ Below w.heap.size w (w5.setCell ⟨g, n, none⟩ (.string (ofL (padB D.data.toList))))) := fun w5 hb5 => by
        have hr5 := HR.out.of_heap (hb5.block g HR.out.lt)
        have hs5 := hr5.set hnl (padB D.data.toList)
        have hw5 : Below w.heap.size w w5 := HW.out.trans (hb5.mono HW.out.size)
        have hw6 := hw5.setCell (p := ⟨g, n, none⟩) HB.out (.string (ofL (padB D.data.toList)))
        refine ⟨cell_below y0 hw5, cell_below y1 hw5, by rw [hX]; exact hr5.cell hnl, hr5.free n, cell_below y0 hw6, cell_below y1 hw6, hs5.free n, by rw [hst]; exact hs5, hw6⟩
      have HC0 : Hid (wr.drew.cell? ⟨b, O, none⟩ = some (.int .i64 (n : Int)) ∧ wr.drew.cell? ⟨b, O + 1, none⟩ = some (.string D)) := ⟨z0, z1⟩
      have kp : Hid (∀ W, Calls Tryz.prog 34 #[.string D] W fun e w' => e = .returned (.string (ofL (padB D.data.toList))) ∧ Below W.heap.size W w') := fun W => pad_any D W m2
      generalize ofL (padB D.data.toList) = P at *
      clear hst hX hD hy hyn y0 y1 hO hd0 HR hnl
      go_wp2_with fail
      go_region_held3 (fun W => W.cell? ⟨b, O, none⟩ = some (.int .i64 (n : Int)) ∧ W.cell? ⟨b, O + 1, none⟩ = some (.string D))
        (first
          | exact HC0.out
          | exact HH5.out
          | exact HH6.out.1)
        (first
          | (go_at_call 34; (with_reducible refine (kp.out _).mono ?_); rintro e w5 ⟨rfl, hb5⟩; obtain ⟨a0, a1, a2, a3, a4, a5, a6, a7, a8⟩ := HK.out w5 (below_trans (below_drew (Below.refl _ wr)) hb5); have HH5 := Lib.hid (And.intro a0 a1); have HH6 := Lib.hid (And.intro (And.intro a4 a5) (And.intro a7 a8)); clear a0 a1 a4 a5 a6 a7 a8))
      all_goals
        go_wp2_with fail
        exact ⟨⟨k + 1, by omega, by go_num, HH6.out.2.1, HH6.out.2.2⟩, by simp only [RowKit.intOf]; omega⟩
    · have hkk : k = L := by omega
      have hki : ¬ (k : Int) < (L : Int) := by omega
      have HE : Hid (wr.ownsRow w.heap.size 9 1 (.slice (some ⟨g, 0, none⟩) N cap) N ((bhL l tx).map strV)) := by
        have hR := HR.out
        rw [hkk, HLL.out, List.take_length] at hR
        obtain ⟨cur, e1, e2, e3⟩ := hR
        rw [bhL_len, ← HNN.out] at e3
        exact ⟨by simp [bhL_len, HNN.out], .inr ⟨g, cap, cur, rfl, HB.out, e1, by have := HC.out.1; have := HNN.out; omega, HC.out.2, by rw [e2, Nat.mul_one], by rw [Nat.mul_one, e3]⟩⟩
      clear hkk
      go_wp2_with fail
      go_ret
      exact ⟨_, rfl, HE.out, HW.out⟩
end Go.Proofs.YtjippoejaieneaaGreat
