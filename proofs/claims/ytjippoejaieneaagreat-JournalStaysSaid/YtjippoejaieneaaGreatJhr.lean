/- Behind a checkpoint and a crash a journal may be opened, with the same cells. No conditions. -/
import Derived.Test.YtjippoejaieneaaGreatJhi
import Derived.Test.YtjippoejaieneaaGreatJop
namespace Go.Proofs.YtjippoejaieneaaGreat
open Go.RowKit Go.Maps
set_option maxRecDepth 20000
set_option linter.unusedVariables false

theorem hfO_head {fs : Int} (h1 : 1 ≤ fs) (h2 : fs ≤ 4611686018427387904) : hfO (padB (Cd.putS fs 8)) = fs := by
  have hl := Cd.putS_length fs 8
  unfold hfO padB
  rw [List.take_append_of_le_length (by omega), List.take_of_length_le (by omega)]
  exact num_stOk ⟨by omega, by omega⟩
theorem hdB_head {fs : Int} (h1 : 1 ≤ fs) (h2 : fs ≤ 4611686018427387904) : hdB (padB (Cd.putS fs 8)) = true := by
  have hl := Cd.putS_length fs 8
  unfold hdB
  rw [hfO_head h1 h2, padB_full (padB_len (by omega))]
  simp only [Bool.and_eq_true, Bool.not_eq_true', decide_eq_false_iff_not, decide_eq_true_eq]
  exact ⟨⟨by omega, by omega⟩, trivial⟩
theorem sb_rd {S : St} {V : Dv} {k : Int} {d : Bts} {m : Int} (hd : S.dead = false) (hk : 0 ≤ k ∧ k < (V.cnt : Int)) (h : SB S V k d m) : rdE S V k = 0 ∧ rdD S V k = padB d ∧ rdN S V k = m ∧ stE S V k = 0 ∧ stN S V k = m := by
  obtain ⟨h1, h2, h3⟩ := h
  have r1 : refE S V k = 0 := by unfold refE; rw [hd]; simp only [Bool.false_eq_true, if_false]; rw [if_neg (by omega)]
  have hr : rawN S V k = m := by unfold rawN; rw [h1, blkB_end m h2, num_stOk h3]
  unfold rdE rdD rdN stE stN
  rw [r1, h1, hr]
  simp only [ne_eq, not_true_eq_false, if_false]
  rw [if_pos h3, if_pos h3]
  exact ⟨par_blk h2 h3, parD_blk h2 h3, parN_blk h2 h3, rfl, rfl⟩
theorem rhN_le (S : St) (V : Dv) (i : Nat) : rhN S V i = 0 ∨ rhN S V i = rdN S V (i : Int) := by
  unfold rhN; split
  · exact .inr rfl
  · exact .inl rfl
theorem rh_head {S : St} {V : Dv} {i : Nat} {h fs : Int} (hd : S.dead = false) (hk : (i : Int) < (V.cnt : Int)) (h2 : 2 ≤ h) (f1 : 1 ≤ fs) (f2 : fs ≤ 4611686018427387904) (hi : h % 2 = (i : Int)) (b : SB S V (i : Int) (Cd.putS fs 8) h) : rhN S V i = h ∧ rhF S V i = fs := by
  obtain ⟨e1, e2, e3, _⟩ := sb_rd hd ⟨by omega, hk⟩ b
  have ok : rhOk S V i = true := by
    unfold rhOk
    rw [e1, e2, e3, hdB_head f1 f2]
    simp only [Bool.and_true, Bool.and_eq_true, Bool.not_eq_true', decide_eq_false_iff_not, decide_eq_true_eq]
    exact ⟨⟨trivial, by omega⟩, hi⟩
  unfold rhN rhF
  rw [ok, e3, e2, hfO_head f1 f2]
  exact ⟨rfl, rfl⟩
theorem hb_of {S : St} {V : Dv} {h fs m : Int} {d : Bts} (hd : S.dead = false) (hc : 2 ≤ V.cnt) (h2 : 2 ≤ h) (f1 : 1 ≤ fs) (f2 : fs ≤ 4611686018427387904) (b1 : SB S V (h % 2) (Cd.putS fs 8) h) (b2 : SB S V ((h + 1) % 2) d m) (hm : m < h) : hb S V 2 = (h, fs) := by
  have u : hb S V 2 = if (if (0 : Int) < rhN S V 0 then (rhN S V 0, rhF S V 0) else (0, 0)).1 < rhN S V 1 then (rhN S V 1, rhF S V 1) else (if (0 : Int) < rhN S V 0 then (rhN S V 0, rhF S V 0) else (0, 0)) := rfl
  rw [u]
  rcases (show h % 2 = 0 ∨ h % 2 = 1 by omega) with q | q
  · have q2 : (h + 1) % 2 = 1 := by omega
    rw [q] at b1
    rw [q2] at b2
    obtain ⟨e1, e2⟩ := rh_head (i := 0) hd (by show (0 : Int) < _; omega) h2 f1 f2 q b1
    obtain ⟨_, _, e3, _⟩ := sb_rd (k := 1) hd ⟨by omega, by omega⟩ b2
    have e4 : rhN S V 1 < h := by
      rcases rhN_le S V 1 with z | z
      · rw [z]; omega
      · rw [z]; show rdN S V 1 < h; rw [e3]; exact hm
    have e5 : (if (0 : Int) < h then (h, fs) else (0, 0)) = (h, fs) := if_pos (by omega)
    rw [e1, e2, e5, if_neg (show ¬ h < rhN S V 1 by omega)]
  · have q2 : (h + 1) % 2 = 0 := by omega
    rw [q] at b1
    rw [q2] at b2
    obtain ⟨e1, e2⟩ := rh_head (i := 1) hd (by show (1 : Int) < _; omega) h2 f1 f2 q b1
    obtain ⟨_, _, e3, _⟩ := sb_rd (k := 0) hd ⟨by omega, by omega⟩ b2
    have e4 : (if (0 : Int) < rhN S V 0 then (rhN S V 0, rhF S V 0) else (0, 0)).1 < h := by
      split
      · show rhN S V 0 < h
        rcases rhN_le S V 0 with z | z
        · rw [z]; omega
        · rw [z]; show rdN S V 0 < h; rw [e3]; exact hm
      · show (0 : Int) < h; omega
    rw [e1, e2, if_pos e4]
theorem stMax_lt {S : St} {V : Dv} {nx : Int} (h0 : 0 < nx) : ∀ (k : Nat), (∀ i : Nat, i < k → stN S V ((i : Int) + 2) < nx) → stMax S V k < nx
  | 0, _ => h0
  | k + 1, h => by
    have h1 := stMax_lt h0 k (fun i hi => h i (by omega))
    have h2 := h k (by omega)
    unfold stMax
    omega
/-- what a crash leaves of an extent that is safe -/
theorem crash_sct {S : St} {V : Dv} (ho : S.ok) (hg : Good S V) (hw : ∀ j, V.first ≤ j → j < V.first + V.cnt → S.wr j = none) (ch : List Int) {V' : Dv} (h1 : V'.first = V.first) (k : Int) (hk : 0 ≤ k ∧ k < (V.cnt : Int)) : sct (S.lose ch).revive V' k = sct S V k := by
  have hf := hg.fit
  unfold Fit at hf
  unfold sct
  rw [h1, lose_oneN ho ch _ (by omega), one_none (hw _ (by omega) (by omega)), one_none (hw _ (by omega) (by omega))]
theorem rd_sct {S S' : St} {V V' : Dv} (hd : S.dead = false) (hd' : S'.dead = false) (hc : V'.cnt = V.cnt) {k : Int} (hk : 0 ≤ k ∧ k < (V.cnt : Int)) (e : sct S' V' k = sct S V k) : rdE S' V' k = rdE S V k ∧ rdD S' V' k = rdD S V k := by
  have r1 : refE S V k = 0 := by unfold refE; rw [hd]; simp only [Bool.false_eq_true, if_false]; rw [if_neg (by omega)]
  have r2 : refE S' V' k = 0 := by unfold refE; rw [hd', hc]; simp only [Bool.false_eq_true, if_false]; rw [if_neg (by omega)]
  unfold rdE rdD
  rw [r1, r2, e]
  exact ⟨rfl, rfl⟩
/-- behind a checkpoint and a crash -/
theorem reopen {n : Nat} {S : St} {V : Dv} {J : Jn} (hc : Calm n S) (hg : Good S V) (hok : J.ok V) (hco : CelOk S V J) (h : HI S V J) (he : J.en ≤ 2) (hf : V.first = 0) (ch : List Int) :
    Calm (S.lose ch).revive.safe.length (S.lose ch).revive ∧ nwE (S.lose ch).revive 0 (V.cnt : Int) 0 = 0 ∧ CanOpen (S.lose ch).revive (newV 0 (V.cnt : Int) 0) (J.area : Int) ∧
    (opnJ (S.lose ch).revive (newV 0 (V.cnt : Int) 0) (J.area : Int)).next = J.next ∧ (opnJ (S.lose ch).revive (newV 0 (V.cnt : Int) 0) (J.area : Int)).area = J.area ∧
    CelOk (S.lose ch).revive (vk (S.lose ch).revive (newV 0 (V.cnt : Int) 0) 2) (opnJ (S.lose ch).revive (newV 0 (V.cnt : Int) 0) (J.area : Int)) ∧
    celsL (S.lose ch).revive (vk (S.lose ch).revive (newV 0 (V.cnt : Int) 0) 2) (opnJ (S.lose ch).revive (newV 0 (V.cnt : Int) 0) (J.area : Int)) = celsL S V J := by
  obtain ⟨fs, f1, f2, b1, ⟨d2, m2, b2, lt2⟩, b3, b4⟩ := h
  obtain ⟨z1, z2, z3⟩ := b4 he
  obtain ⟨l1, l2⟩ := hc.ok.lose ch
  have a0 := hok.a0
  have a1 := hok.a1
  have h0 := hok.h0
  obtain ⟨S5, hS5⟩ : ∃ S5, S5 = (S.lose ch).revive := ⟨_, rfl⟩
  obtain ⟨V5, hV5⟩ : ∃ V5, V5 = newV 0 (V.cnt : Int) 0 := ⟨_, rfl⟩
  have v1 : V5.first = V.first := by rw [hV5, hf]; rfl
  have v2 : V5.cnt = V.cnt := by rw [hV5]; exact Int.toNat_natCast _
  have hd5 : S5.dead = false := by rw [hS5]; rfl
  have hs : ∀ k : Int, 0 ≤ k ∧ k < (V.cnt : Int) → sct S5 V5 k = sct S V k := fun k hk => by rw [hS5]; exact crash_sct hc.ok hg z3 ch v1 k hk
  have hsb : ∀ (k : Int) d m, 0 ≤ k ∧ k < (V.cnt : Int) → SB S V k d m → SB S5 V5 k d m := fun k d m hk b => ⟨(hs k hk).trans b.1, b.2⟩
  have hcl : Calm S5.safe.length S5 := by rw [hS5]; exact ⟨l1.revive, rfl, rfl, rfl⟩
  have hcnt : S5.count = S.count := by rw [hS5]; exact l2
  have hnw : nwE S5 0 (V.cnt : Int) 0 = 0 := by
    have hfit := hg.fit
    unfold Fit at hfit
    unfold nwE
    rw [hcnt, if_neg (by omega)]
  rw [← hS5, ← hV5]
  have hhb : hb S5 V5 2 = (J.head, fs) := hb_of hd5 (by omega) h0 f1 f2 (hsb _ _ _ ⟨by omega, by omega⟩ b1) (hsb _ _ _ ⟨by omega, by omega⟩ b2) lt2
  have har : ∀ k : Nat, k < J.area - 2 → stE S5 V5 ((k : Int) + 2) = 0 ∧ stN S5 V5 ((k : Int) + 2) < J.next := fun k hk => by
    obtain ⟨d, m, c1, c2⟩ := b3 (k + 2) (by omega) (by omega)
    have hk2 : ((k + 2 : Nat) : Int) = (k : Int) + 2 := by omega
    rw [hk2] at c1
    obtain ⟨_, _, _, e4, e5⟩ := sb_rd (k := (k : Int) + 2) hd5 ⟨by omega, by rw [v2]; omega⟩ (hsb _ _ _ ⟨by omega, by omega⟩ c1)
    exact ⟨e4, by rw [e5]; exact c2⟩
  have hop : CanOpen S5 V5 (J.area : Int) := by
    refine ⟨?_, ?_, ?_, fun k hk => (har k (by rw [Int.toNat_natCast] at hk; exact hk)).1, ?_⟩
    · unfold isA; rw [v2]; simp only [Bool.and_eq_true, decide_eq_true_eq]; omega
    · rw [hhb]; exact ⟨h0, hok.h1⟩
    · rw [hhb]; exact ⟨f1, f2⟩
    · rw [hhb, Int.toNat_natCast]
      show stMax S5 V5 (J.area - 2) < fs
      rw [z1]
      exact stMax_lt (by have := hok.n0; omega) _ (fun i hi => (har i hi).2)
  have hna : (opnJ S5 V5 (J.area : Int)).area = J.area := Int.toNat_natCast _
  obtain ⟨k1, k2, _, _⟩ := vk_cnt S5 V5 2
  have hrd : ∀ c : Nat, c < V.cnt - J.area → rdE S5 (vk S5 V5 2) ((J.area : Int) + (c : Int)) = rdE S V ((J.area : Int) + (c : Int)) ∧ rdD S5 (vk S5 V5 2) ((J.area : Int) + (c : Int)) = rdD S V ((J.area : Int) + (c : Int)) := fun c hcc => by
    obtain ⟨x1, x2, _⟩ := rd_same (S := S5) k1 k2 ((J.area : Int) + (c : Int))
    rw [x1, x2]
    exact rd_sct hc.dead hd5 v2 ⟨by omega, by omega⟩ (hs _ ⟨by omega, by omega⟩)
  refine ⟨hcl, hnw, hop, ?_, hna, ?_, ?_⟩
  · show (hb S5 V5 2).2 = J.next
    rw [hhb]; exact z1
  · intro c hcc _
    rw [hna] at hcc ⊢
    rw [k2, v2] at hcc
    rw [(hrd c hcc).1]
    exact hco c hcc (z2 c)
  · unfold celsL
    rw [hna, k2, v2]
    refine List.map_congr_left fun c hcm => ?_
    have hcc := List.mem_range.1 hcm
    unfold cel
    rw [z2 c, hna]
    exact (hrd c hcc).2
end Go.Proofs.YtjippoejaieneaaGreat
