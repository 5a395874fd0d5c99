/- Whether parts may be: what the calls return. Conditions: numbers that a machine holds. -/
import Derived.Test.YtedhefidfepclaaSpd
namespace Go.Proofs.Ytedhefidfepclaa
open Go.RowKit Go.Maps
set_option linter.unusedVariables false

/-- a part may be: its first number names a size that is there, its pages are 1 to 16 -/
def okT (p : Pg) : Prop := 1 ≤ p.2 ∧ p.2 ≤ 16 ∧ 0 ≤ p.1 ∧ p.1 ≤ 7
instance (p : Pg) : Decidable (okT p) := by unfold okT; infer_instance
def nokT (p : Pg) : Bool := decide (¬ okT p)
/-- all parts may be -/
def okL (ps : List Pg) : Prop := 1 ≤ ps.length ∧ ps.length ≤ 8 ∧ ∀ p ∈ ps, okT p
instance (ps : List Pg) : Decidable (okL ps) := by unfold okL; infer_instance
set_option maxRecDepth 20000 in
set_option maxHeartbeats 1000000 in
theorem notT_any (w : World) (f r : Int) :
    Calls Try.prog 57 #[.agg #[.int .i64 f, .int .i64 r]] w fun e w' => e = .returned (.bool (nokT (f, r))) ∧ Below w.heap.size w w' := by
  have hb : Below w.heap.size w (w.alloc (.cells #[.int .i64 f, .int .i64 r] 53)) := (Below.refl _ w).alloc (Nat.le_refl _) _
  have HB := Lib.hid hb
  clear hb
  by_cases a : r < 1
  · have e : nokT (f, r) = true := by unfold nokT okT; simp; omega
    rw [e]; clear e
    go_enter Try.func57, Try.ntmps57
    go_wp2
    go_ret
    exact ⟨rfl, HB.out⟩
  · by_cases b : 16 < r
    · have e : nokT (f, r) = true := by unfold nokT okT; simp; omega
      rw [e]; clear e
      go_enter Try.func57, Try.ntmps57
      go_wp2
      go_ret
      exact ⟨rfl, HB.out⟩
    · by_cases c : f < 0
      · have e : nokT (f, r) = true := by unfold nokT okT; simp; omega
        rw [e]; clear e
        go_enter Try.func57, Try.ntmps57
        go_wp2
        go_ret
        exact ⟨rfl, HB.out⟩
      · by_cases d : 8 ≤ f
        · have e : nokT (f, r) = true := by unfold nokT okT; simp; omega
          rw [e]; clear e
          go_enter Try.func57, Try.ntmps57
          go_wp2
          go_ret
          exact ⟨by simp, HB.out⟩
        · have e : nokT (f, r) = false := by unfold nokT okT; simp; omega
          rw [e]; clear e
          go_enter Try.func57, Try.ntmps57
          go_wp2
          go_ret
          exact ⟨by simp, HB.out⟩
def firstT (ps : List Pg) : Int := match ps.findIdx? nokT with | some i => (i : Int) | none => -1
theorem firstT_none {ps : List Pg} (h : ∀ j, j < ps.length → nokT (ps.getD j (0, 0)) = false) : firstT ps = -1 := by
  unfold firstT
  rw [List.findIdx?_eq_none_iff.2]
  intro x hx
  obtain ⟨i, hi, rfl⟩ := List.getElem_of_mem hx
  have := h i hi
  rwa [List.getD_eq_getElem?_getD, List.getElem?_eq_getElem hi] at this
theorem firstT_some {ps : List Pg} {k : Nat} (hk : k < ps.length) (hb : nokT (ps.getD k (0, 0)) = true) (h : ∀ j, j < k → nokT (ps.getD j (0, 0)) = false) : firstT ps = k := by
  unfold firstT
  have e : List.findIdx? nokT ps = some k := by
    rw [List.findIdx?_eq_some_iff_getElem]
    refine ⟨hk, ?_, fun j hj => ?_⟩
    · rwa [List.getD_eq_getElem?_getD, List.getElem?_eq_getElem hk] at hb
    · have := h j hj
      rw [List.getD_eq_getElem?_getD, List.getElem?_eq_getElem (by omega)] at this
      simpa using this
  rw [e]
theorem firstT_iff (ps : List Pg) : (0 ≤ firstT ps) ↔ ¬ ∀ p ∈ ps, okT p := by
  unfold firstT
  cases h : List.findIdx? nokT ps with
  | none =>
    rw [List.findIdx?_eq_none_iff] at h
    constructor
    · intro h2; simp at h2
    · intro h2
      refine absurd (fun p hp => ?_) h2
      have := h p hp
      unfold nokT at this
      simpa using this
  | some i =>
    rw [List.findIdx?_eq_some_iff_getElem] at h
    obtain ⟨hi, hb, _⟩ := h
    constructor
    · intro _ h2
      have := h2 _ (List.getElem_mem hi)
      unfold nokT at hb
      simp [this] at hb
    · intro _; simp
set_option maxRecDepth 20000 in
set_option maxHeartbeats 1000000 in
theorem indexT_any (w : World) (G : Nat → Prop) (v : Value) (ps : List Pg) (ht : TabV G w v ps) (hl : ps.length ≤ 16) :
    Calls Try.prog 75 #[v, .func (.func 57) #[] #[]] w fun e w' => e = .returned (.int .i64 (firstT ps)) ∧ Below w.heap.size w w' := by
  obtain ⟨q, n, cap0, rfl⟩ : ∃ q n cap, v = .slice q n cap := by obtain ⟨q, cap, e, _⟩ := ht; exact ⟨_, _, _, e⟩
  obtain ⟨n', hn'⟩ : ∃ n', n' = ps.length := ⟨_, rfl⟩
  obtain rfl : n = n' := by obtain ⟨q, cap, e, _⟩ := ht; injection e with _ e2; rw [e2, hn']
  have H := Lib.hid (And.intro ht hn')
  rw [← hn'] at hl
  clear ht hn'
  go_enter Try.func75, Try.ntmps75
  go_wp2
  go_loopw [8] (fun i wr => ∃ k : Nat, k ≤ n ∧ i = .int .i64 (k : Int) ∧ (∀ j, j < k → nokT (ps.getD j (0, 0)) = false) ∧ Below w.heap.size w wr) (fun i _ => n - (intOf i).toNat)
  case atStart => exact ⟨0, Nat.zero_le _, rfl, fun j hj => absurd hj (by omega), Below.refl _ _⟩
  case round =>
    obtain ⟨k, hk, rfl, hno, hbw⟩ := hrel
    have HNO := Lib.hid hno
    have HBW := Lib.hid hbw
    clear hno hbw
    by_cases a : k < n
    · have ht := H.out.1.below HBW.out
      obtain ⟨q', cap', e1, e2, hc⟩ := ht
      injection e1 with e3 e4 e5
      have hne : ps ≠ [] := fun e => by have := H.out.2; subst e; simp at this; omega
      obtain ⟨b, o, hq, hG, hlt, hcell⟩ := hc hne
      obtain ⟨c0, c1⟩ := hcell k (by rw [← H.out.2]; exact a)
      rw [← e3] at hq
      subst hq
      have kk := notT_any wr (ps.getD k (0, 0)).1 (ps.getD k (0, 0)).2
      have HI := Lib.hid (And.intro hlt hG)
      clear hc hcell e2 e3 e4 e5 hne hlt hG
      obtain ⟨f, hf⟩ : ∃ f, f = (ps.getD k (0, 0)).1 := ⟨_, rfl⟩
      obtain ⟨r, hr⟩ : ∃ r, r = (ps.getD k (0, 0)).2 := ⟨_, rfl⟩
      have HFR : Hid (nokT (f, r) = nokT (ps.getD k (0, 0))) := by rw [hf, hr]; exact rfl
      rw [← hf, ← hr] at kk
      rw [← hf] at c0
      rw [← hr] at c1
      clear hf hr
      go_wp2_with (go_at_call 57; refine kk.mono ?_; rintro e w' ⟨rfl, hb'⟩)
      · have hbad : nokT (f, r) = true := by assumption
        go_ret
        exact ⟨ret_int (firstT_some (by rw [← H.out.2]; exact a) (HFR.out.symm.trans hbad) HNO.out).symm, below_trans HBW.out hb'⟩
      · have hgood : nokT (f, r) = false := by assumption
        refine ⟨⟨k + 1, a, rfl, fun j hj => ?_, below_trans HBW.out hb'⟩, ?_⟩
        · rcases Nat.lt_or_ge j k with hlt | hge
          · exact HNO.out j hlt
          · obtain rfl : j = k := by omega
            exact HFR.out.symm.trans hgood
        · have HZ := a
          simp [intOf]; omega
    · obtain rfl : k = n := by omega
      go_wp2
      go_ret
      exact ⟨ret_int (firstT_none (fun j hj => HNO.out j (by rw [H.out.2]; exact hj))).symm, HBW.out⟩
set_option maxRecDepth 20000 in
set_option maxHeartbeats 1000000 in
theorem containsT_any (w : World) (G : Nat → Prop) (v : Value) (ps : List Pg) (ht : TabV G w v ps) (hl : ps.length ≤ 16) :
    Calls Try.prog 56 #[v, .func (.func 57) #[] #[]] w fun e w' => e = .returned (.bool (decide (0 ≤ firstT ps))) ∧ Below w.heap.size w w' := by
  have k := indexT_any w G v ps ht hl
  obtain ⟨q, n, cap0, rfl⟩ : ∃ q n cap, v = .slice q n cap := by obtain ⟨q, cap, e, _⟩ := ht; exact ⟨_, _, _, e⟩
  clear ht
  generalize firstT ps = x at *
  go_enter Try.func56, Try.ntmps56
  go_wp2_with (go_at_call 75; refine k.mono ?_; rintro e w' ⟨rfl, hb⟩)
  go_ret
  exact ⟨ret_bool (by first | rfl | simp), hb⟩
set_option maxRecDepth 20000 in
set_option maxHeartbeats 1000000 in
theorem mayBe_any (w : World) (G : Nat → Prop) (v : Value) (ps : List Pg) (ht : TabV G w v ps) :
    Calls Try.prog 28 #[v] w fun e w' => e = .returned (.bool (decide (okL ps))) ∧ Below w.heap.size w w' := by
  obtain ⟨n, hn⟩ : ∃ n, n = ps.length := ⟨_, rfl⟩
  obtain ⟨q, cap0, rfl⟩ : ∃ q cap, v = .slice q n cap := by obtain ⟨q, cap, e, _⟩ := ht; exact ⟨_, _, by rw [hn]; exact e⟩
  by_cases a : n < 1
  · have e : decide (okL ps) = false := decide_eq_false (fun q => by unfold okL at q; omega)
    rw [e]
    obtain rfl : n = 0 := by omega
    clear ht hn e a
    go_enter Try.func28, Try.ntmps28
    go_wp2
    go_ret
    exact ⟨by simp, Below.refl _ _⟩
  · have a1 : (1 : Int) ≤ (n : Int) := by omega
    by_cases b : 8 < n
    · have e : decide (okL ps) = false := decide_eq_false (fun q => by unfold okL at q; omega)
      rw [e]
      have b1 : ¬ (n : Int) ≤ 8 := by omega
      clear ht hn e a b
      go_enter Try.func28, Try.ntmps28
      go_wp2
      go_ret
      exact ⟨by simp, Below.refl _ _⟩
    · have b1 : (n : Int) ≤ 8 := by omega
      have k := containsT_any w G _ ps ht (by omega)
      have e : decide (okL ps) = ! decide (0 ≤ firstT ps) := by
        have := firstT_iff ps
        by_cases c : ∀ p ∈ ps, okT p
        · have c2 : ¬ 0 ≤ firstT ps := fun q => this.1 q c
          rw [decide_eq_true (show okL ps from ⟨by omega, by omega, c⟩), decide_eq_false c2]; rfl
        · have c2 : 0 ≤ firstT ps := this.2 c
          rw [decide_eq_false (show ¬ okL ps from fun q => c q.2.2), decide_eq_true c2]; rfl
      rw [e]
      clear ht hn e a b
      generalize decide (0 ≤ firstT ps) = x at *
      go_enter Try.func28, Try.ntmps28
      go_wp2_with (go_at_call 56; refine k.mono ?_; rintro e w' ⟨rfl, hb⟩)
      go_ret
      exact ⟨rfl, hb⟩
set_option maxRecDepth 20000 in
set_option maxHeartbeats 2000000 in
theorem checkT_any (w : World) (G : Nat → Prop) (v : Value) (ps : List Pg) (ht : TabV G w v ps) (hl : ps.length ≤ 140737488355328) :
    Calls Try.prog 20 #[v] w fun e w' => e = .returned (.bool (decide (okL ps))) ∧ w = w' := by
  obtain ⟨q, n, cap0, rfl⟩ : ∃ q n cap, v = .slice q n cap := by obtain ⟨q, cap, e, _⟩ := ht; exact ⟨_, _, _, e⟩
  obtain ⟨n', hn'⟩ : ∃ n', n' = ps.length := ⟨_, rfl⟩
  obtain rfl : n = n' := by obtain ⟨q, cap, e, _⟩ := ht; injection e with _ e2; rw [e2, hn']
  have H := Lib.hid (And.intro ht hn')
  rw [← hn'] at hl
  clear ht hn'
  go_enter Try.func20, Try.ntmps20
  go_wp2
  go_loopw [3] (fun i wr => ∃ k : Nat, k ≤ n ∧ i = .int .i64 (k : Int) ∧ (∀ j, j < k → nokT (ps.getD j (0, 0)) = false) ∧ w = wr) (fun i _ => n - (intOf i).toNat)
  case atStart => exact ⟨0, Nat.zero_le _, rfl, fun j hj => absurd hj (by omega), rfl⟩
  case round =>
    obtain ⟨k, hk, rfl, hno, rfl⟩ := hrel
    have HNO := Lib.hid hno
    clear hno
    by_cases a : k < n
    · obtain ⟨q', cap', e1, e2, hc⟩ := H.out.1
      injection e1 with e3 e4 e5
      have hne : ps ≠ [] := fun e => by have := H.out.2; subst e; simp at this; omega
      obtain ⟨b, o, hq, hG, hlt, hcell⟩ := hc hne
      obtain ⟨c0, c1⟩ := hcell k (by rw [← H.out.2]; exact a)
      rw [← e3] at hq
      subst hq
      clear hc hcell e2 e3 e4 e5 hne hlt hG
      obtain ⟨f, hf⟩ : ∃ f, f = (ps.getD k (0, 0)).1 := ⟨_, rfl⟩
      obtain ⟨r, hr⟩ : ∃ r, r = (ps.getD k (0, 0)).2 := ⟨_, rfl⟩
      have HFR : Hid (nokT (f, r) = nokT (ps.getD k (0, 0))) := by rw [hf, hr]; exact rfl
      rw [← hf] at c0
      rw [← hr] at c1
      clear hf hr
      have aI : (k : Int) < (n : Int) := by omega
      by_cases bad : nokT (f, r) = true
      · have eN : decide (okL ps) = false := decide_eq_false (fun q => by
          have h2 : ¬ ∀ p ∈ ps, okT p := (firstT_iff ps).1 (by rw [firstT_some (by rw [← H.out.2]; exact a) (HFR.out.symm.trans bad) HNO.out]; omega)
          exact h2 q.2.2)
        have EN := Lib.hid eN
        have hb : r < 1 ∨ 16 < r ∨ f < 0 ∨ 7 < f := by unfold nokT okT at bad; simp at bad; omega
        clear bad eN
        by_cases b1 : r < 1
        · go_wp2
          go_ret
          exact ⟨ret_bool EN.out.symm, rfl⟩
        · by_cases b2 : 16 < r
          · go_wp2
            go_ret
            exact ⟨ret_bool EN.out.symm, rfl⟩
          · by_cases b3 : f < 0
            · go_wp2
              go_ret
              exact ⟨ret_bool EN.out.symm, rfl⟩
            · have b4 : 7 < f := by omega
              go_wp2
              go_ret
              exact ⟨ret_bool EN.out.symm, rfl⟩
      · have good : nokT (f, r) = false := by simpa using bad
        have hb : 1 ≤ r ∧ r ≤ 16 ∧ 0 ≤ f ∧ f ≤ 7 := by
          have : okT (f, r) := by unfold nokT at good; simpa using good
          exact this
        obtain ⟨g1, g2, g3, g4⟩ := hb
        have b1 : ¬ r < 1 := by omega
        have b2 : ¬ 16 < r := by omega
        have b3 : ¬ f < 0 := by omega
        have b4 : ¬ 7 < f := by omega
        have HGD := Lib.hid good
        clear bad good
        go_wp2
        refine ⟨⟨k + 1, a, by simp, fun j hj => ?_, trivial⟩, ?_⟩
        · rcases Nat.lt_or_ge j k with hlt | hge
          · exact HNO.out j hlt
          · obtain rfl : j = k := by omega
            exact HFR.out.symm.trans HGD.out
        · simp [intOf]; omega
    · obtain rfl : k = n := by omega
      have hall : ∀ p ∈ ps, okT p := Classical.byContradiction fun hh => by
        have := (firstT_iff ps).2 hh
        rw [firstT_none (fun j hj => HNO.out j (by rw [H.out.2]; exact hj))] at this
        omega
      have e : decide (okL ps) = decide (1 ≤ k ∧ k ≤ 8) := by
        have := H.out.2
        by_cases c : 1 ≤ k ∧ k ≤ 8
        · rw [decide_eq_true c, decide_eq_true (show okL ps from ⟨by omega, by omega, hall⟩)]
        · rw [decide_eq_false c, decide_eq_false (show ¬ okL ps from fun q => by unfold okL at q; omega)]
      have EN := Lib.hid e
      clear e hall
      by_cases c1 : (1 : Int) ≤ (k : Int)
      · by_cases c2 : (k : Int) ≤ 8
        · have c3 : 1 ≤ k ∧ k ≤ 8 := by omega
          have c4 := EN.out.trans (decide_eq_true c3)
          have EN2 := Lib.hid c4
          clear c3 c4
          go_wp2
          go_ret
          exact ⟨ret_bool (by rw [EN2.out]), rfl⟩
        · have c3 : ¬ (1 ≤ k ∧ k ≤ 8) := by omega
          have c4 := EN.out.trans (decide_eq_false c3)
          have EN2 := Lib.hid c4
          clear c3 c4
          go_wp2
          go_ret
          exact ⟨ret_bool (by rw [EN2.out]), rfl⟩
      · have c3 : ¬ (1 ≤ k ∧ k ≤ 8) := by omega
        have c4 := EN.out.trans (decide_eq_false c3)
        have EN2 := Lib.hid c4
        clear c3 c4
        go_wp2
        go_ret
        exact ⟨ret_bool (by rw [EN2.out]), rfl⟩
end Go.Proofs.Ytedhefidfepclaa
