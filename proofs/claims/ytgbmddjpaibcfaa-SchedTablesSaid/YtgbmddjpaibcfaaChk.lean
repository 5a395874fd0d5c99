/- May windows be a major frame: what the two calls return; is a number a tick. No conditions. -/
import Derived.Test.YtgbmddjpaibcfaaMem
namespace Go.Proofs.Ytgbmddjpaibcfaa
open Go.RowKit Go.Maps
set_option linter.unusedVariables false

def isT (n : Int) : Prop := 0 ≤ n ∧ n ≤ 1099511627776
instance (n : Int) : Decidable (isT n) := by unfold isT; infer_instance
theorem tick_any (w : World) (n : Int) : Calls Try.prog 36 #[.int .i64 n] w fun e w' => e = .returned (.bool (decide (isT n))) ∧ w = w' := by
  by_cases a : 0 ≤ n
  · by_cases b : n ≤ 1099511627776
    · rw [decide_eq_true (show isT n from ⟨a, b⟩)]
      go_enter Try.func36, Try.ntmps36
      go_wp2
      go_ret
      exact ⟨rfl, rfl⟩
    · rw [decide_eq_false (fun q : isT n => b q.2)]
      go_enter Try.func36, Try.ntmps36
      go_wp2
      go_ret
      exact ⟨rfl, rfl⟩
  · rw [decide_eq_false (fun q : isT n => a q.1)]
    go_enter Try.func36, Try.ntmps36
    go_wp2
    go_ret
    exact ⟨rfl, rfl⟩
theorem rtick_any (w : World) (n : Int) : Calls Try.prog 37 #[.int .i64 n] w fun e w' => e = .returned (.bool (decide (isT n))) ∧ w = w' := by
  by_cases a : 0 ≤ n
  · by_cases b : n ≤ 1099511627776
    · rw [decide_eq_true (show isT n from ⟨a, b⟩)]
      go_enter Try.func37, Try.ntmps37
      go_wp2
      go_ret
      exact ⟨rfl, rfl⟩
    · rw [decide_eq_false (fun q : isT n => b q.2)]
      go_enter Try.func37, Try.ntmps37
      go_wp2
      go_ret
      exact ⟨rfl, rfl⟩
  · rw [decide_eq_false (fun q : isT n => a q.1)]
    go_enter Try.func37, Try.ntmps37
    go_wp2
    go_ret
    exact ⟨rfl, rfl⟩
def firstT (ps : List Wn) : Int := match ps.findIdx? nokW with | some i => (i : Int) | none => -1
theorem firstT_none {ps : List Wn} (h : ∀ j, j < ps.length → nokW (ps.getD j w0) = false) : firstT ps = -1 := by
  unfold firstT
  rw [List.findIdx?_eq_none_iff.2]
  intro x hx
  obtain ⟨i, hi, rfl⟩ := List.getElem_of_mem hx
  have := h i hi
  rwa [List.getD_eq_getElem?_getD, List.getElem?_eq_getElem hi] at this
theorem firstT_some {ps : List Wn} {k : Nat} (hk : k < ps.length) (hb : nokW (ps.getD k w0) = true) (h : ∀ j, j < k → nokW (ps.getD j w0) = false) : firstT ps = k := by
  unfold firstT
  have e : List.findIdx? nokW ps = some k := by
    rw [List.findIdx?_eq_some_iff_getElem]
    refine ⟨hk, ?_, fun j hj => ?_⟩
    · rwa [List.getD_eq_getElem?_getD, List.getElem?_eq_getElem hk] at hb
    · have := h j hj
      rw [List.getD_eq_getElem?_getD, List.getElem?_eq_getElem (by omega)] at this
      simpa using this
  rw [e]
theorem firstT_iff (ps : List Wn) : (0 ≤ firstT ps) ↔ ¬ ∀ p ∈ ps, okW p := by
  unfold firstT
  cases h : List.findIdx? nokW ps with
  | none =>
    rw [List.findIdx?_eq_none_iff] at h
    constructor
    · intro h2; simp at h2
    · intro h2
      refine absurd (fun p hp => ?_) h2
      have := h p hp
      unfold nokW at this
      simpa using this
  | some i =>
    rw [List.findIdx?_eq_some_iff_getElem] at h
    obtain ⟨hi, hb, _⟩ := h
    constructor
    · intro _ h2
      have := h2 _ (List.getElem_mem hi)
      unfold nokW at hb
      simp [this] at hb
    · intro _; simp
set_option maxHeartbeats 1000000 in
theorem indexW_any (w : World) (G : Nat → Prop) (v : Value) (ps : List Wn) (ht : WinV G w v ps) (hl : ps.length ≤ 64) :
    Calls Try.prog 45 #[v, .func (.func 35) #[] #[]] w fun e w' => e = .returned (.int .i64 (firstT ps)) ∧ Below w.heap.size w w' := by
  obtain ⟨q, n, cap0, rfl⟩ : ∃ q n cap, v = .slice q n cap := by obtain ⟨q, cap, e, _⟩ := ht; exact ⟨_, _, _, e⟩
  obtain ⟨n', hn'⟩ : ∃ n', n' = ps.length := ⟨_, rfl⟩
  obtain rfl : n = n' := by obtain ⟨q, cap, e, _⟩ := ht; injection e with _ e2; rw [e2, hn']
  have H := Lib.hid (And.intro ht hn')
  rw [← hn'] at hl
  clear ht hn'
  go_enter Try.func45, Try.ntmps45
  go_wp2
  go_loopw [8] (fun i wr => ∃ k : Nat, k ≤ n ∧ i = .int .i64 (k : Int) ∧ (∀ j, j < k → nokW (ps.getD j w0) = false) ∧ Below w.heap.size w wr) (fun i _ => n - (intOf i).toNat)
  case atStart => exact ⟨0, Nat.zero_le _, rfl, fun j hj => absurd hj (by omega), Below.refl _ _⟩
  case round =>
    obtain ⟨k, hk, rfl, hno, hbw⟩ := hrel
    have HNO := Lib.hid hno
    have HBW := Lib.hid hbw
    clear hno hbw
    by_cases a : k < n
    · have ht := H.out.1.below HBW.out
      obtain ⟨q', cap', e1, e2, hc⟩ := ht
      injection e1 with e3 e4 e5
      have hne : ps ≠ [] := fun e => by have := H.out.2; subst e; simp at this; omega
      obtain ⟨b, o, hq, hG, hlt, hcell⟩ := hc hne
      obtain ⟨c0, c1, c2⟩ := hcell k (by rw [← H.out.2]; exact a)
      rw [← e3] at hq
      subst hq
      have kk := notW_any wr (ps.getD k w0).1 (ps.getD k w0).2.1 (ps.getD k w0).2.2
      have HI := Lib.hid (And.intro hlt hG)
      clear hc hcell e2 e3 e4 e5 hne hlt hG
      obtain ⟨f, hf⟩ : ∃ f, f = (ps.getD k w0).1 := ⟨_, rfl⟩
      obtain ⟨r, hr⟩ : ∃ r, r = (ps.getD k w0).2.1 := ⟨_, rfl⟩
      obtain ⟨t, hT⟩ : ∃ t, t = (ps.getD k w0).2.2 := ⟨_, rfl⟩
      have HFR : Hid (nokW (f, r, t) = nokW (ps.getD k w0)) := by rw [hf, hr, hT]; exact rfl
      rw [← hf, ← hr, ← hT] at kk
      rw [← hf] at c0
      rw [← hr] at c1
      rw [← hT] at c2
      clear hf hr hT
      go_wp2_with (go_at_call 35; refine kk.mono ?_; rintro e w' ⟨rfl, hb'⟩)
      · have hbad : nokW (f, r, t) = true := by assumption
        go_ret
        exact ⟨ret_int (firstT_some (by rw [← H.out.2]; exact a) (HFR.out.symm.trans hbad) HNO.out).symm, below_trans HBW.out hb'⟩
      · have hgood : nokW (f, r, t) = false := by assumption
        refine ⟨⟨k + 1, a, rfl, fun j hj => ?_, below_trans HBW.out hb'⟩, ?_⟩
        · rcases Nat.lt_or_ge j k with hlt | hge
          · exact HNO.out j hlt
          · obtain rfl : j = k := by omega
            exact HFR.out.symm.trans hgood
        · have HZ := a
          simp [intOf]; omega
    · obtain rfl : k = n := by omega
      go_wp2
      go_ret
      exact ⟨ret_int (firstT_none (fun j hj => HNO.out j (by rw [H.out.2]; exact hj))).symm, HBW.out⟩
set_option maxHeartbeats 1000000 in
theorem containsW_any (w : World) (G : Nat → Prop) (v : Value) (ps : List Wn) (ht : WinV G w v ps) (hl : ps.length ≤ 64) :
    Calls Try.prog 34 #[v, .func (.func 35) #[] #[]] w fun e w' => e = .returned (.bool (decide (0 ≤ firstT ps))) ∧ Below w.heap.size w w' := by
  have k := indexW_any w G v ps ht hl
  obtain ⟨q, n, cap0, rfl⟩ : ∃ q n cap, v = .slice q n cap := by obtain ⟨q, cap, e, _⟩ := ht; exact ⟨_, _, _, e⟩
  clear ht
  generalize firstT ps = x at *
  go_enter Try.func34, Try.ntmps34
  go_wp2_with (go_at_call 45; refine k.mono ?_; rintro e w' ⟨rfl, hb⟩)
  go_ret
  exact ⟨ret_bool (by first | rfl | simp), hb⟩
set_option maxHeartbeats 1000000 in
theorem check_any (w : World) (G : Nat → Prop) (v : Value) (ps : List Wn) (ht : WinV G w v ps) :
    Calls Try.prog 10 #[v] w fun e w' => e = .returned (.int .i64 (chkE ps)) ∧ Below w.heap.size w w' := by
  obtain ⟨n, hn⟩ : ∃ n, n = ps.length := ⟨_, rfl⟩
  obtain ⟨q, cap0, rfl⟩ : ∃ q cap, v = .slice q n cap := by obtain ⟨q, cap, e, _⟩ := ht; exact ⟨_, _, by rw [hn]; exact e⟩
  by_cases a : n < 1
  · have e : chkE ps = 130 := if_neg (fun q => by unfold okL at q; omega)
    rw [e]
    obtain rfl : n = 0 := by omega
    clear ht hn e a
    go_enter Try.func10, Try.ntmps10
    go_wp2
    go_ret
    exact ⟨rfl, Below.refl _ _⟩
  · have a1 : ¬ (n : Int) < 1 := by omega
    by_cases b : 64 < n
    · have e : chkE ps = 130 := if_neg (fun q => by unfold okL at q; omega)
      rw [e]
      have b1 : (64 : Int) < (n : Int) := by omega
      clear ht hn e a b
      go_enter Try.func10, Try.ntmps10
      go_wp2
      go_ret
      exact ⟨rfl, Below.refl _ _⟩
    · have b1 : ¬ (64 : Int) < (n : Int) := by omega
      have k := containsW_any w G _ ps ht (by omega)
      have hf := firstT_iff ps
      by_cases c : ∀ p ∈ ps, okW p
      · have c2 : ¬ 0 ≤ firstT ps := fun q => hf.1 q c
        have e : chkE ps = 0 := if_pos ⟨by omega, by omega, c⟩
        rw [decide_eq_false c2] at k
        rw [e]
        clear ht hn e a b hf c c2
        go_enter Try.func10, Try.ntmps10
        go_wp2_with (go_at_call 34; refine k.mono ?_; rintro e w' ⟨rfl, hb⟩)
        go_ret
        exact ⟨rfl, hb⟩
      · have c2 : 0 ≤ firstT ps := hf.2 c
        have e : chkE ps = 130 := if_neg (fun q => c q.2.2)
        rw [decide_eq_true c2] at k
        rw [e]
        clear ht hn e a b hf c c2
        go_enter Try.func10, Try.ntmps10
        go_wp2_with (go_at_call 34; refine k.mono ?_; rintro e w' ⟨rfl, hb⟩)
        go_ret
        exact ⟨rfl, hb⟩
set_option maxHeartbeats 4000000 in
theorem rcheck_any (w : World) (G : Nat → Prop) (v : Value) (ps : List Wn) (ht : WinV G w v ps) (hl : ps.length ≤ 140737488355328) :
    Calls Try.prog 11 #[v] w fun e w' => e = .returned (.int .i64 (chkE ps)) ∧ Below w.heap.size w w' := by
  obtain ⟨q, n, cap0, rfl⟩ : ∃ q n cap, v = .slice q n cap := by obtain ⟨q, cap, e, _⟩ := ht; exact ⟨_, _, _, e⟩
  obtain ⟨n', hn'⟩ : ∃ n', n' = ps.length := ⟨_, rfl⟩
  obtain rfl : n = n' := by obtain ⟨q, cap, e, _⟩ := ht; injection e with _ e2; rw [e2, hn']
  have H := Lib.hid (And.intro ht hn')
  rw [← hn'] at hl
  clear ht hn'
  go_enter Try.func11, Try.ntmps11
  go_wp2
  go_loopw [3] (fun i wr => ∃ k : Nat, k ≤ n ∧ i = .int .i64 (k : Int) ∧ (∀ j, j < k → nokW (ps.getD j w0) = false) ∧ Below w.heap.size w wr) (fun i _ => n - (intOf i).toNat)
  case atStart => exact ⟨0, Nat.zero_le _, rfl, fun j hj => absurd hj (by omega), Below.refl _ _⟩
  case round =>
    obtain ⟨k, hk, rfl, hno, hbw⟩ := hrel
    have HNO := Lib.hid hno
    by_cases a : k < n
    · have ht := H.out.1.below hbw
      obtain ⟨q', cap', e1, e2, hc⟩ := ht
      injection e1 with e3 e4 e5
      have hne : ps ≠ [] := fun e => by have := H.out.2; subst e; simp at this; omega
      obtain ⟨b, o, hq, hG, hlt, hcell⟩ := hc hne
      obtain ⟨c0, c1, c2⟩ := hcell k (by rw [← H.out.2]; exact a)
      rw [← e3] at hq
      subst hq
      obtain ⟨f, hf⟩ : ∃ f, f = (ps.getD k w0).1 := ⟨_, rfl⟩
      obtain ⟨r, hr⟩ : ∃ r, r = (ps.getD k w0).2.1 := ⟨_, rfl⟩
      obtain ⟨t, hT⟩ : ∃ t, t = (ps.getD k w0).2.2 := ⟨_, rfl⟩
      have HFR : Hid (nokW (f, r, t) = nokW (ps.getD k w0)) := by rw [hf, hr, hT]; exact rfl
      rw [← hf] at c0
      rw [← hr] at c1
      rw [← hT] at c2
      have HBW : Hid (Below w.heap.size w (wr.alloc (.cells #[.int .i64 f, .int .i64 r, .int .i64 t] 40))) := Lib.hid (hbw.alloc hbw.size _)
      clear hc hcell e2 e3 e4 e5 hne hlt hG hf hr hT hno hbw
      have aI : (k : Int) < (n : Int) := by omega
      have hbadE : nokW (f, r, t) = true → Hid (chkE ps = 130) := fun bad => Lib.hid (if_neg (fun q => by
          have h2 : ¬ ∀ p ∈ ps, okW p := (firstT_iff ps).1 (by rw [firstT_some (by rw [← H.out.2]; exact a) (HFR.out.symm.trans bad) HNO.out]; omega)
          exact h2 q.2.2))
      by_cases r_k0 : f < 0
      · have EN := hbadE (by unfold nokW okW; simp; omega)
        clear hbadE
        go_wp2
        go_ret
        exact ⟨ret_int EN.out.symm, HBW.out⟩
      · skip
        by_cases r_k5 : 5 ≤ f
        · have EN := hbadE (by unfold nokW okW; simp; omega)
          clear hbadE
          go_wp2
          go_ret
          exact ⟨ret_int EN.out.symm, HBW.out⟩
        · skip
          by_cases r_i0 : r < 0
          · have EN := hbadE (by unfold nokW okW; simp; omega)
            clear hbadE
            go_wp2
            go_ret
            exact ⟨ret_int EN.out.symm, HBW.out⟩
          · skip
            by_cases r_i7 : 7 < r
            · have EN := hbadE (by unfold nokW okW; simp; omega)
              clear hbadE
              go_wp2
              go_ret
              exact ⟨ret_int EN.out.symm, HBW.out⟩
            · skip
              by_cases r_t1 : t < 1
              · have EN := hbadE (by unfold nokW okW; simp; omega)
                clear hbadE
                go_wp2
                go_ret
                exact ⟨ret_int EN.out.symm, HBW.out⟩
              · skip
                by_cases r_t255 : 255 < t
                · have EN := hbadE (by unfold nokW okW; simp; omega)
                  clear hbadE
                  go_wp2
                  go_ret
                  exact ⟨ret_int EN.out.symm, HBW.out⟩
                · skip
                  by_cases z : (f = 0 ∨ f = 4) ∧ 0 < r
                  · have EN := hbadE (by unfold nokW okW; simp; omega)
                    clear hbadE
                    obtain ⟨z1, z2⟩ := z
                    rcases z1 with rfl | rfl
                    · go_wp2
                      go_ret
                      exact ⟨ret_int EN.out.symm, HBW.out⟩
                    · go_wp2
                      go_ret
                      exact ⟨ret_int EN.out.symm, HBW.out⟩
                  · have hgd : nokW (f, r, t) = false := by
                      have : okW (f, r, t) := ⟨by show 1 ≤ t; omega, by show t ≤ 255; omega, by show ((f = 0 ∨ f = 4) ∧ r = 0) ∨ (1 ≤ f ∧ f ≤ 3 ∧ 0 ≤ r ∧ r ≤ 7); omega⟩
                      unfold nokW; exact decide_eq_false (fun q => q this)
                    have HGD := Lib.hid hgd
                    clear hbadE hgd
                    have hend : Hid (∃ k_1 : Nat, k_1 ≤ n ∧ k + 1 = k_1 ∧ ∀ j, j < k_1 → nokW (ps.getD j w0) = false) := Lib.hid ⟨k + 1, a, rfl, fun j hj => by
                      rcases Nat.lt_or_ge j k with hlt | hge
                      · exact HNO.out j hlt
                      · obtain rfl : j = k := by omega
                        exact HFR.out.symm.trans HGD.out⟩
                    by_cases y : f = 0 ∨ f = 4
                    · obtain rfl : r = 0 := by omega
                      rcases y with rfl | rfl
                      · go_wp2
                        obtain ⟨k1, h1, h2, h3⟩ := hend.out
                        exact ⟨⟨k1, h1, by rw [← h2]; first | rfl | simp, h3, HBW.out⟩, by simp [intOf]; omega⟩
                      · go_wp2
                        obtain ⟨k1, h1, h2, h3⟩ := hend.out
                        exact ⟨⟨k1, h1, by rw [← h2]; first | rfl | simp, h3, HBW.out⟩, by simp [intOf]; omega⟩
                    · have y0 : (f == 0) = false := by simp; omega
                      have y4 : (f == 4) = false := by simp; omega
                      clear z y
                      go_wp2
                      obtain ⟨k1, h1, h2, h3⟩ := hend.out
                      exact ⟨⟨k1, h1, by rw [← h2]; first | rfl | simp, h3, HBW.out⟩, by simp [intOf]; omega⟩
    · obtain rfl : k = n := by omega
      have hall : ∀ p ∈ ps, okW p := Classical.byContradiction fun hh => by
        have := (firstT_iff ps).2 hh
        rw [firstT_none (fun j hj => HNO.out j (by rw [H.out.2]; exact hj))] at this
        omega
      have e : chkE ps = if 1 ≤ k ∧ k ≤ 64 then 0 else 130 := by
        have := H.out.2
        unfold chkE
        by_cases c : 1 ≤ k ∧ k ≤ 64
        · rw [if_pos c, if_pos (show okL ps from ⟨by omega, by omega, hall⟩)]
        · rw [if_neg c, if_neg (show ¬ okL ps from fun q => by unfold okL at q; omega)]
      have EN := Lib.hid e
      have HBW := Lib.hid hbw
      clear e hall hno hbw
      by_cases c1 : (k : Int) < 1
      · have EN2 := Lib.hid (EN.out.trans (if_neg (by omega)))
        go_wp2
        go_ret
        exact ⟨ret_int (by rw [EN2.out]), HBW.out⟩
      · by_cases c2 : (64 : Int) < (k : Int)
        · have EN2 := Lib.hid (EN.out.trans (if_neg (by omega)))
          go_wp2
          go_ret
          exact ⟨ret_int (by rw [EN2.out]), HBW.out⟩
        · have EN2 := Lib.hid (EN.out.trans (if_pos (by omega)))
          go_wp2
          go_ret
          exact ⟨ret_int (by rw [EN2.out]), HBW.out⟩
end Go.Proofs.Ytgbmddjpaibcfaa
