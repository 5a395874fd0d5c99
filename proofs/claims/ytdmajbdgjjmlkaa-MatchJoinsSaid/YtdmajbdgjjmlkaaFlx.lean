/- All empty steps of a machine followed, in its own states: what the call leaves. Conditions: the machine lies in memory. -/
import Derived.Test.YtdmajbdgjjmlkaaFlw
namespace Go.Proofs.Ytdmajbdgjjmlkaa
open Go.RowKit
set_option linter.unusedVariables false
set_option linter.unusedSimpArgs false

theorem setNx_mem {L : List Sta} {i n : Nat} {y : Sta} (hy : y ∈ setNx L i n) : ∃ x ∈ L, y.s0 = x.s0 ∧ y.s1 = x.s1 ∧ y.s2 = x.s2 ∧ y.s3 = x.s3 := by
  obtain ⟨j, hj⟩ := List.getElem?_of_mem hy
  by_cases c : i = j
  · subst c
    have hl : i < L.length := by
      have := (List.getElem?_eq_some_iff.1 hj).1
      rw [setNx_len] at this
      exact this
    rw [setNx_at L i n L[i] (List.getElem?_eq_getElem hl)] at hj
    cases hj
    exact ⟨L[i], List.getElem_mem hl, rfl, rfl, rfl, rfl⟩
  · rw [setNx_ne L i j n c] at hj
    exact ⟨y, List.mem_of_getElem? hj, rfl, rfl, rfl, rfl⟩
theorem OkS.setNx {L : List Sta} (h : OkS L) (i n : Nat) : OkS (setNx L i n) := fun y hy => by
  obtain ⟨x, hx, e0, e1, e2, e3⟩ := setNx_mem hy
  have := h x hx
  unfold Sta.ok at this ⊢
  rw [e0, e1, e2, e3]
  exact this
set_option maxRecDepth 100000 in
set_option maxHeartbeats 4000000 in
theorem follow_any (n0 p : Nat) (M : Mac) (w : World) (h : IsM n0 p M w) (hok : OkS M.sts) (hlo : Lo M.sts) (hlen : M.sts.length ≤ 257) (h0 : 0 < M.sts.length) (hbeg : M.beg < topN) :
    Calls Try.prog 31 #[.pointer (some ⟨p, 0, none⟩)] w fun e w' => e = .returned (.tuple #[]) ∧ IsM n0 p ⟨followAll M.sts.length 0 M.sts, fol (followAll M.sts.length 0 M.sts) M.beg⟩ w' ∧ Oth n0 p w w' := by
  obtain ⟨L, beg⟩ := M
  dsimp only at *
  have hnw : n0 ≤ w.heap.size := Nat.le_trans h.base (Nat.le_of_lt h.lt)
  obtain ⟨F, hF⟩ : ∃ F, F = followAll L.length 0 L := ⟨_, rfl⟩
  rw [← hF]
  have HF : Hid (followAll L.length 0 L = F) := Lib.hid hF.symm
  obtain ⟨g, cap, hc, ho, hgp, hg0, hgs, hcs⟩ := h.own h0
  have c0 : w.cell? ⟨p, 0, none⟩ = some (.slice (some ⟨g, 0, none⟩) L.length cap) := cell_at hc rfl
  have hLi : (L.length : Int) ≤ 257 := by omega
  have HH := Lib.hid (And.intro h (And.intro hok (And.intro hlo (And.intro hlen (And.intro h0 (And.intro hbeg hnw))))))
  clear h hok hlo hlen h0 hbeg hnw hF hc ho hgp hg0 hgs hcs
  go_enter Try.func31, Try.ntmps31
  go_wp2
  go_loopw [8] (fun i wr => ∃ (j : Nat) (K : List Sta), j ≤ L.length ∧ i = .int .i64 (j : Nat) ∧ Hid (K.length = L.length ∧ IsM n0 p ⟨K, beg⟩ wr ∧ Lo K ∧ OkS K ∧ Oth n0 p w wr ∧ followAll (L.length - j) j K = F)) (fun i _ => L.length - (intOf i).toNat)
  case atStart =>
    obtain ⟨h, hok, hlo, hlen, h0, hbeg, hnw⟩ := HH.out
    exact ⟨0, L, Nat.zero_le _, rfl, Lib.hid ⟨rfl, h, hlo, hok, Oth.refl _ _ _, HF.out⟩⟩
  case round =>
    obtain ⟨j, K, hj, rfl, HR⟩ := hrel
    obtain ⟨k1, k2, k3, k4, k5, k6⟩ := HR.out
    obtain ⟨h, hok, hlo, hlen, h0, hbeg, hnw⟩ := HH.out
    clear c0
    by_cases hlt : j < L.length
    · have hji : (j : Int) < (L.length : Int) := by omega
      obtain ⟨g1, cap1, hc, ho, hgp, hg0, hgs, hcs⟩ := k2.own (by show 0 < K.length; omega)
      dsimp only at hc ho
      rw [k1] at hc ho
      have hxj : K[j]? = some K[j] := List.getElem?_eq_getElem (by omega)
      have hnx := k3 K[j] (List.getElem_mem (by omega))
      have k6' : followAll (L.length - (j + 1)) (j + 1) (setNx K j (fol K K[j].nx)) = F := by
        rw [← k6, show L.length - j = (L.length - (j + 1)) + 1 by omega, followAll, hxj]; rfl
      generalize K[j] = x at *
      have FL := followed_any n0 p ⟨K, beg⟩ wr.drew (k2.of_below (Below.refl _ wr).drew) k4 k3 (by show K.length ≤ 257; omega) (by show 0 < K.length; omega) x.nx hnx
      dsimp only at FL
      unfold plc at FL
      have c0 : wr.drew.cell? ⟨p, 0, none⟩ = some (.slice (some ⟨g1, 0, none⟩) L.length cap1) := cell_at (w := wr.drew) hc rfl
      have gs : ∀ k u, (staV x)[k]? = some u → wr.drew.cell? ⟨g1, j * 9 + k, none⟩ = some u := fun k u hu => by
        have := ho.cells (g := g1) rfl _ _ (stasV_at K j x hxj k u hu)
        rw [add0] at this
        exact this
      have g4 : wr.drew.cell? ⟨g1, j * 9 + 4, none⟩ = some (.int .u64 (pw x.nx 0 : Nat)) := gs 4 _ rfl
      have g5 : wr.drew.cell? ⟨g1, j * 9 + 4 + 1, none⟩ = some (.int .u64 (pw x.nx 1 : Nat)) := gs 5 _ rfl
      have g6 : wr.drew.cell? ⟨g1, j * 9 + 4 + 2, none⟩ = some (.int .u64 (pw x.nx 2 : Nat)) := gs 6 _ rfl
      have g7 : wr.drew.cell? ⟨g1, j * 9 + 4 + 3, none⟩ = some (.int .u64 (pw x.nx 3 : Nat)) := gs 7 _ rfl
      have g8 : wr.drew.cell? ⟨g1, j * 9 + 4 + 4, none⟩ = some (.int .u64 (pw x.nx 4 : Nat)) := gs 8 _ rfl
      have fN := (fol_ok k3 hnx).1
      generalize fol K x.nx = N at *
      have NX : Hid (∀ w1, Below wr.drew.heap.size wr.drew w1 → (w1.cell? ⟨p, 0, none⟩ = some (.slice (some ⟨g1, 0, none⟩) L.length cap1) ∧ (∀ k u, (staV x)[k]? = some u → w1.cell? ⟨g1, j * 9 + k, none⟩ = some u) ∧ ∀ o, w1.frozen? ⟨g1, o, none⟩ = false) ∧ IsM n0 p ⟨setNx K j N, beg⟩ (put5o w1 g1 (j * 9 + 4) N) ∧ Oth n0 p w (put5o w1 g1 (j * 9 + 4) N)) := Lib.hid fun w1 hb => by
        have hb' : Below wr.heap.size wr w1 := (Below.refl _ wr).drew.trans hb
        have gr : wr.grownBy w1 none := ⟨hb'.os, hb'.tape, hb'.output, hb'.size, fun i hi _ => hb'.block i hi⟩
        have ho1 := ho.kept gr (.inr (by simp [Value.ownBlock]))
        have hc1 := (hb'.block p (block_lt' hc)).trans hc
        obtain ⟨cs, hcs⟩ := hcs
        have hcs1 := (hb'.block g1 hgs).trans hcs
        refine ⟨⟨cell_at hc1 rfl, fun k u hu => ?_, fun o => free_at hcs1⟩, ?_⟩
        · have := ho1.cells (g := g1) rfl _ _ (stasV_at K j x hxj k u hu)
          rw [add0] at this
          exact this
        · have hp := IsM.setNx (M := ⟨K, beg⟩) h.base (by dsimp only; rw [k1]; exact hc1) (by dsimp only; rw [k1]; exact ho1) hgp ⟨cs, hcs1⟩ hg0 j x hxj N
          exact ⟨hp.1, k5.trans ((Oth.of_below hb' (Nat.le_trans hnw k5.below.size)).trans hp.2)⟩
      have HK := Lib.hid (And.intro hlt (And.intro k1 (And.intro (k3.put (i := j) fN) (And.intro (k4.setNx j N) k6'))))
      have FLH := Lib.hid FL
      clear k2 k3 k4 k5 k6 k6' h hok hlo hlen h0 hbeg hnw hc ho hgp hg0 hgs hcs hxj hnx gs fN FL hlt hj k1
      go_wp2
      go_region_with (go_at_call 47; (with_reducible refine FLH.out.mono ?_); rintro e w1 ⟨rfl, hb1⟩; obtain ⟨⟨e0, es, ef⟩, -⟩ := NX.out _ hb1; have d4 := es 4 _ rfl; have d5 := es 5 _ rfl; have d6 := es 6 _ rfl; have d7 := es 7 _ rfl; have d8 := es 8 _ rfl; have HB1 := Lib.hid hb1; clear hb1)
      all_goals
        go_wp2
        exact ⟨⟨j + 1, setNx K j N, HK.out.1, by go_num, Lib.hid ⟨(setNx_len _ _ _).trans HK.out.2.1, (NX.out _ HB1.out).2.1, HK.out.2.2.1, HK.out.2.2.2.1, (NX.out _ HB1.out).2.2, HK.out.2.2.2.2⟩⟩, by simp [intOf]; have := HK.out.1; omega⟩
    · have hjl : j = L.length := by omega
      subst hjl
      have hKF : K = F := by rw [← k6, Nat.sub_self, followAll]
      subst hKF
      obtain ⟨b1, b2, b3, b4, b5⟩ := k2.begs
      dsimp only at b1 b2 b3 b4 b5
      have FL := followed_any n0 p ⟨K, beg⟩ wr k2 k4 k3 (by show K.length ≤ 257; omega) (by show 0 < K.length; omega) beg hbeg
      dsimp only at FL
      unfold plc at FL
      obtain ⟨N, hN⟩ : ∃ N, N = fol K beg := ⟨_, rfl⟩
      rw [← hN] at FL
      have HN := Lib.hid hN
      clear hN
      have NX : Hid (∀ w1, Below wr.heap.size wr w1 → (∃ v, w1.heap[p]? = some (.cells #[v, .int .u64 (pw beg 0 : Nat), .int .u64 (pw beg 1 : Nat), .int .u64 (pw beg 2 : Nat), .int .u64 (pw beg 3 : Nat), .int .u64 (pw beg 4 : Nat)] 62 (0, 0))) ∧ IsM n0 p ⟨K, N⟩ (put5o w1 p 1 N) ∧ Oth n0 p w (put5o w1 p 1 N)) := Lib.hid fun w1 hb => by
        have k2' := k2.of_below hb
        have hp := k2'.setBeg N
        obtain ⟨-, v, hc, -⟩ := k2'
        exact ⟨⟨v, hc⟩, hp.1, k5.trans ((Oth.of_below hb (Nat.le_trans hnw k5.below.size)).trans hp.2)⟩
      have FLH := Lib.hid FL
      clear k1 k2 k3 k4 k5 k6 h hok hlo hlen h0 hbeg hnw FL hlt hj HR
      go_wp2_with (go_at_call 47; (with_reducible refine FLH.out.mono ?_); rintro e w1 ⟨rfl, hb1⟩; obtain ⟨⟨v, hc1⟩, hp1, hp2⟩ := NX.out _ hb1; have d1 : w1.cell? ⟨p, 1, none⟩ = some (.int .u64 (pw beg 0 : Nat)) := cell_at hc1 rfl; have d2 : w1.cell? ⟨p, 2, none⟩ = some (.int .u64 (pw beg 1 : Nat)) := cell_at hc1 rfl; have d3 : w1.cell? ⟨p, 3, none⟩ = some (.int .u64 (pw beg 2 : Nat)) := cell_at hc1 rfl; have d4 : w1.cell? ⟨p, 4, none⟩ = some (.int .u64 (pw beg 3 : Nat)) := cell_at hc1 rfl; have d5 : w1.cell? ⟨p, 5, none⟩ = some (.int .u64 (pw beg 4 : Nat)) := cell_at hc1 rfl; have df : ∀ o, w1.frozen? ⟨p, o, none⟩ = false := fun o => free_at hc1; have HP1 := Lib.hid hp1; have HP2 := Lib.hid hp2; clear hp1 hp2 hb1 hc1)
      go_end0
      exact ⟨rfl, by rw [← HN.out]; exact HP1.out, HP2.out⟩
end Go.Proofs.Ytdmajbdgjjmlkaa
