/- The small calls on a memory: how many frames, may a page be, may a table be. No conditions. -/
import Derived.Test.YtedhefidfepclaaMem
namespace Go.Proofs.Ytedhefidfepclaa
open Go.RowKit Go.Maps
set_option linter.unusedVariables false

theorem ret_int {k : IntKind} {a b : Int} (h : a = b) : Ending.returned (.int k a) = .returned (.int k b) := by rw [h]
theorem ret_bool {a b : Bool} (h : a = b) : Ending.returned (.bool a) = .returned (.bool b) := by rw [h]
set_option maxHeartbeats 400000 in
theorem frames_any (p g cap F : Nat) (B : Bts) (w : World) (h : IsM w p g cap F B) :
    Calls Try.prog 48 #[.pointer (some ⟨p, 0, none⟩)] w fun e w' => e = .returned (.int .i64 (F : Int)) ∧ w = w' := by
  have c0 := h.cell
  clear h
  go_enter Try.func48, Try.ntmps48
  go_wp2
  go_ret
  exact ⟨rfl, rfl⟩
set_option maxHeartbeats 400000 in
theorem has_any (p g cap F : Nat) (B : Bts) (w : World) (h : IsM w p g cap F B) (f : Int) :
    Calls Try.prog 60 #[.pointer (some ⟨p, 0, none⟩), .int .i64 f] w fun e w' => e = .returned (.bool (decide (0 ≤ f ∧ f < F))) ∧ w = w' := by
  have c0 := h.cell
  clear h
  by_cases a : 0 ≤ f
  · by_cases b : f < F
    · go_enter Try.func60, Try.ntmps60
      go_wp2
      go_ret
      exact ⟨ret_bool (by simp; omega), rfl⟩
    · go_enter Try.func60, Try.ntmps60
      go_wp2
      go_ret
      exact ⟨ret_bool (by simp; omega), rfl⟩
  · go_enter Try.func60, Try.ntmps60
    go_wp2
    go_ret
    exact ⟨ret_bool (by simp; omega), rfl⟩
def nok (F : Nat) (p : Pg) : Bool := decide (¬ okP F p)
theorem nok_iff (F : Nat) (f r : Int) (d : Bool) (h : d = true ↔ (if f = -1 then ¬ r = 0 else ¬ (0 ≤ f ∧ f < F ∧ 0 ≤ r ∧ r ≤ 7))) : d = nok F (f, r) := by
  have : nok F (f, r) = true ↔ (if f = -1 then ¬ r = 0 else ¬ (0 ≤ f ∧ f < F ∧ 0 ≤ r ∧ r ≤ 7)) := by
    unfold nok okP
    by_cases a : f = -1
    · simp [a]
    · simp [a]
      omega
  cases d <;> cases hn : nok F (f, r) <;> simp_all
set_option maxHeartbeats 1000000 in
theorem not_any (p g cap F : Nat) (B : Bts) (w : World) (h : IsM w p g cap F B) (f r : Int) :
    Calls Try.prog 77 #[.pointer (some ⟨p, 0, none⟩), .agg #[.int .i64 f, .int .i64 r]] w fun e w' => e = .returned (.bool (nok F (f, r))) ∧ Below w.heap.size w w' := by
  have hb : Below w.heap.size w (w.alloc (.cells #[.int .i64 f, .int .i64 r] 56)) := (Below.refl _ w).alloc (Nat.le_refl _) _
  have k := has_any p g cap F B _ (h.below hb) f
  have HB := Lib.hid hb
  clear h hb
  by_cases a : f = -1
  · subst a
    go_enter Try.func77, Try.ntmps77
    go_wp2
    go_ret
    refine ⟨ret_bool (nok_iff _ _ _ _ ?_), HB.out⟩
    simp
  · by_cases b : 0 ≤ f ∧ f < F
    · have eb : decide (0 ≤ f ∧ f < (F : Int)) = true := by simp [b]
      rw [eb] at k
      by_cases c : r < 0
      · go_enter Try.func77, Try.ntmps77
        go_wp2_with (go_at_call 60; refine k.mono ?_; rintro e w' ⟨rfl, rfl⟩)
        go_ret
        exact ⟨ret_bool (nok_iff _ _ _ _ (by rw [if_neg a]; simp; omega)), HB.out⟩
      · go_enter Try.func77, Try.ntmps77
        go_wp2_with (go_at_call 60; refine k.mono ?_; rintro e w' ⟨rfl, rfl⟩)
        go_ret
        exact ⟨ret_bool (nok_iff _ _ _ _ (by rw [if_neg a]; simp; omega)), HB.out⟩
    · have eb : decide (0 ≤ f ∧ f < (F : Int)) = false := by simp; omega
      rw [eb] at k
      go_enter Try.func77, Try.ntmps77
      go_wp2_with (go_at_call 60; refine k.mono ?_; rintro e w' ⟨rfl, rfl⟩)
      go_ret
      exact ⟨ret_bool (nok_iff _ _ _ _ (by rw [if_neg a]; simp; omega)), HB.out⟩
/-- v is a slice of the pages ps, whose block is of G -/
def TabV (G : Nat → Prop) (w : World) (v : Value) (ps : List Pg) : Prop :=
  ∃ q cap, v = .slice q ps.length cap ∧ ps.length ≤ cap ∧ (ps ≠ [] → ∃ b o, q = some ⟨b, o, none⟩ ∧ G b ∧ b < w.heap.size ∧
    ∀ j, j < ps.length → w.cell? ⟨b, o + j * 2, none⟩ = some (.int .i64 (ps.getD j (0, 0)).1) ∧ w.cell? ⟨b, o + j * 2 + 1, none⟩ = some (.int .i64 (ps.getD j (0, 0)).2))
theorem TabV.of_heap {G : Nat → Prop} {w w' : World} {v : Value} {ps : List Pg} (h : TabV G w v ps) (hs : w.heap.size ≤ w'.heap.size) (e : ∀ k, k < w.heap.size → G k → w'.heap[k]? = w.heap[k]?) : TabV G w' v ps := by
  obtain ⟨q, cap, h1, h2, h3⟩ := h
  refine ⟨q, cap, h1, h2, fun hne => ?_⟩
  obtain ⟨b, o, hq, hG, hlt, hc⟩ := h3 hne
  exact ⟨b, o, hq, hG, by omega, fun j hj => by simp only [World.cell?, e b hlt hG]; exact hc j hj⟩
theorem TabV.below {G : Nat → Prop} {w w' : World} {v : Value} {ps : List Pg} (h : TabV G w v ps) (hb : Below w.heap.size w w') : TabV G w' v ps := h.of_heap hb.size fun k hk _ => hb.block k hk
theorem TabV.ch {G F : Nat → Prop} {w w' : World} {v : Value} {ps : List Pg} (h : TabV G w v ps) (hb : Ch F w w') (hn : ∀ k, G k → ¬ F k) : TabV G w' v ps := h.of_heap hb.size fun k hk hG => hb.block k hk (hn k hG)
theorem TabV.nil (G : Nat → Prop) (w : World) : TabV G w (.slice none 0 0) [] := ⟨none, 0, rfl, Nat.le_refl _, fun h => absurd rfl h⟩
def firstBad (F : Nat) (ps : List Pg) : Int := match ps.findIdx? (nok F) with | some i => (i : Int) | none => -1
theorem firstBad_none {F : Nat} {ps : List Pg} (h : ∀ j, j < ps.length → nok F (ps.getD j (0, 0)) = false) : firstBad F ps = -1 := by
  unfold firstBad
  rw [List.findIdx?_eq_none_iff.2]
  intro x hx
  obtain ⟨i, hi, rfl⟩ := List.getElem_of_mem hx
  have := h i hi
  rwa [List.getD_eq_getElem?_getD, List.getElem?_eq_getElem hi] at this
theorem firstBad_some {F : Nat} {ps : List Pg} {k : Nat} (hk : k < ps.length) (hb : nok F (ps.getD k (0, 0)) = true) (h : ∀ j, j < k → nok F (ps.getD j (0, 0)) = false) : firstBad F ps = k := by
  unfold firstBad
  have e : List.findIdx? (nok F) ps = some k := by
    rw [List.findIdx?_eq_some_iff_getElem]
    refine ⟨hk, ?_, fun j hj => ?_⟩
    · rwa [List.getD_eq_getElem?_getD, List.getElem?_eq_getElem hk] at hb
    · have := h j hj
      rw [List.getD_eq_getElem?_getD, List.getElem?_eq_getElem (by omega)] at this
      simpa using this
  rw [e]
set_option maxHeartbeats 1000000 in
theorem index_any (p g cap F : Nat) (B : Bts) (w : World) (h : IsM w p g cap F B) (G : Nat → Prop) (v : Value) (ps : List Pg) (ht : TabV G w v ps) (hl : ps.length ≤ 16) :
    Calls Try.prog 102 #[v, .func (.func 77) #[.pointer (some ⟨p, 0, none⟩)] #[]] w fun e w' => e = .returned (.int .i64 (firstBad F ps)) ∧ Below w.heap.size w w' := by
  obtain ⟨q, n, cap0, rfl⟩ : ∃ q n cap, v = .slice q n cap := by obtain ⟨q, cap, e, _⟩ := ht; exact ⟨_, _, _, e⟩
  obtain ⟨n', hn'⟩ : ∃ n', n' = ps.length := ⟨_, rfl⟩
  obtain rfl : n = n' := by obtain ⟨q, cap, e, _⟩ := ht; injection e with _ e2; rw [e2, hn']
  have H := Lib.hid (And.intro h (And.intro ht hn'))
  rw [← hn'] at hl
  clear h ht hn'
  go_enter Try.func102, Try.ntmps102
  go_wp2
  go_loopw [8] (fun i wr => ∃ k : Nat, k ≤ n ∧ i = .int .i64 (k : Int) ∧ (∀ j, j < k → nok F (ps.getD j (0, 0)) = false) ∧ Below w.heap.size w wr) (fun i _ => n - (intOf i).toNat)
  case atStart => exact ⟨0, Nat.zero_le _, rfl, fun j hj => absurd hj (by omega), Below.refl _ _⟩
  case round =>
    obtain ⟨k, hk, rfl, hno, hbw⟩ := hrel
    have HNO := Lib.hid hno
    have HBW := Lib.hid hbw
    clear hno hbw
    by_cases a : k < n
    · have hm := H.out.1.below HBW.out
      have ht := H.out.2.1.below HBW.out
      obtain ⟨q', cap', e1, e2, hc⟩ := ht
      injection e1 with e3 e4 e5
      have hne : ps ≠ [] := fun e => by have := H.out.2.2; subst e; simp at this; omega
      obtain ⟨b, o, hq, hG, hlt, hcell⟩ := hc hne
      obtain ⟨c0, c1⟩ := hcell k (by rw [← H.out.2.2]; exact a)
      rw [← e3] at hq
      subst hq
      have kk := not_any p g cap F B wr hm (ps.getD k (0, 0)).1 (ps.getD k (0, 0)).2
      have HI := Lib.hid (And.intro hlt hG)
      clear hm hc hcell e2 e3 e4 e5 hne hlt hG
      obtain ⟨f, hf⟩ : ∃ f, f = (ps.getD k (0, 0)).1 := ⟨_, rfl⟩
      obtain ⟨r, hr⟩ : ∃ r, r = (ps.getD k (0, 0)).2 := ⟨_, rfl⟩
      have HFR : Hid (nok F (f, r) = nok F (ps.getD k (0, 0))) := by rw [hf, hr]; exact rfl
      rw [← hf, ← hr] at kk
      rw [← hf] at c0
      rw [← hr] at c1
      clear hf hr
      go_wp2_with (go_at_call 77; refine kk.mono ?_; rintro e w' ⟨rfl, hb'⟩)
      · have hbad : nok F (f, r) = true := by assumption
        go_ret
        exact ⟨ret_int (firstBad_some (by rw [← H.out.2.2]; exact a) (HFR.out.symm.trans hbad) HNO.out).symm, below_trans HBW.out hb'⟩
      · have hgood : nok F (f, r) = false := by assumption
        refine ⟨⟨k + 1, a, rfl, fun j hj => ?_, below_trans HBW.out hb'⟩, ?_⟩
        · rcases Nat.lt_or_ge j k with hlt | hge
          · exact HNO.out j hlt
          · obtain rfl : j = k := by omega
            exact HFR.out.symm.trans hgood
        · have HZ := a
          simp [intOf]; omega
    · obtain rfl : k = n := by omega
      go_wp2
      go_ret
      exact ⟨ret_int (firstBad_none (fun j hj => HNO.out j (by rw [H.out.2.2]; exact hj))).symm, HBW.out⟩
theorem firstBad_iff (F : Nat) (ps : List Pg) : (0 ≤ firstBad F ps) ↔ ¬ ∀ p ∈ ps, okP F p := by
  unfold firstBad
  cases h : List.findIdx? (nok F) ps with
  | none =>
    rw [List.findIdx?_eq_none_iff] at h
    constructor
    · intro h2; simp at h2
    · intro h2
      refine absurd (fun p hp => ?_) h2
      have := h p hp
      unfold nok at this
      simpa using this
  | some i =>
    rw [List.findIdx?_eq_some_iff_getElem] at h
    obtain ⟨hi, hb, _⟩ := h
    constructor
    · intro _ h2
      have := h2 _ (List.getElem_mem hi)
      unfold nok at hb
      simp [this] at hb
    · intro _; simp
set_option maxHeartbeats 1000000 in
theorem contains_any (p g cap F : Nat) (B : Bts) (w : World) (h : IsM w p g cap F B) (G : Nat → Prop) (v : Value) (ps : List Pg) (ht : TabV G w v ps) (hl : ps.length ≤ 16) :
    Calls Try.prog 76 #[v, .func (.func 77) #[.pointer (some ⟨p, 0, none⟩)] #[]] w fun e w' => e = .returned (.bool (decide (0 ≤ firstBad F ps))) ∧ Below w.heap.size w w' := by
  have k := index_any p g cap F B w h G v ps ht hl
  obtain ⟨q, n, cap0, rfl⟩ : ∃ q n cap, v = .slice q n cap := by obtain ⟨q, cap, e, _⟩ := ht; exact ⟨_, _, _, e⟩
  clear h ht
  generalize firstBad F ps = x at *
  go_enter Try.func76, Try.ntmps76
  go_wp2_with (go_at_call 102; refine k.mono ?_; rintro e w' ⟨rfl, hb⟩)
  go_ret
  exact ⟨ret_bool (by first | rfl | simp), hb⟩
set_option maxHeartbeats 1000000 in
theorem check_any (p g cap F : Nat) (B : Bts) (w : World) (h : IsM w p g cap F B) (G : Nat → Prop) (v : Value) (ps : List Pg) (ht : TabV G w v ps) :
    Calls Try.prog 61 #[.pointer (some ⟨p, 0, none⟩), v] w fun e w' => e = .returned (.int .i64 (chk F ps)) ∧ Below w.heap.size w w' := by
  obtain ⟨n, hn⟩ : ∃ n, n = ps.length := ⟨_, rfl⟩
  by_cases a : n ≤ 16
  · have k := contains_any p g cap F B w h G v ps ht (by omega)
    have ec : chk F ps = if 0 ≤ firstBad F ps then 84 else 0 := by
      unfold chk
      by_cases b : ∀ p ∈ ps, okP F p
      · rw [if_pos ⟨by omega, b⟩, if_neg (fun q => (firstBad_iff F ps).1 q b)]
      · rw [if_neg (fun q => b q.2), if_pos ((firstBad_iff F ps).2 b)]
    rw [ec]
    obtain ⟨q, cap0, rfl⟩ : ∃ q cap, v = .slice q n cap := by obtain ⟨q, cap, e, _⟩ := ht; exact ⟨_, _, by rw [hn]; exact e⟩
    clear h ht ec hn
    generalize firstBad F ps = x at *
    by_cases b : 0 ≤ x
    · rw [if_pos b]
      have eb : decide (0 ≤ x) = true := by simp [b]
      rw [eb] at k
      go_enter Try.func61, Try.ntmps61
      go_wp2_with (go_at_call 76; refine k.mono ?_; rintro e w' ⟨rfl, hb⟩)
      go_ret
      exact ⟨rfl, hb⟩
    · rw [if_neg b]
      have eb : decide (0 ≤ x) = false := by simp; omega
      rw [eb] at k
      go_enter Try.func61, Try.ntmps61
      go_wp2_with (go_at_call 76; refine k.mono ?_; rintro e w' ⟨rfl, hb⟩)
      go_ret
      exact ⟨rfl, hb⟩
  · have ec : chk F ps = 84 := by unfold chk; rw [if_neg]; omega
    rw [ec]
    obtain ⟨q, cap0, rfl⟩ : ∃ q cap, v = .slice q n cap := by obtain ⟨q, cap, e, _⟩ := ht; exact ⟨_, _, by rw [hn]; exact e⟩
    clear h ht ec hn
    go_enter Try.func61, Try.ntmps61
    go_wp2
    go_ret
    exact ⟨rfl, Below.refl _ _⟩
def chkW (F : Nat) (ps : List Pg) (n : Int) : Int := if chk F ps = 0 then (if n = 1 ∨ n = 2 ∨ n = 4 then 0 else 80) else chk F ps
set_option maxHeartbeats 1000000 in
theorem checkw_any (p g cap F : Nat) (B : Bts) (w : World) (h : IsM w p g cap F B) (G : Nat → Prop) (v : Value) (ps : List Pg) (ht : TabV G w v ps) (n : Int) :
    Calls Try.prog 101 #[.pointer (some ⟨p, 0, none⟩), v, .int .i64 n] w fun e w' => e = .returned (.int .i64 (chkW F ps n)) ∧ Below w.heap.size w w' := by
  have k := check_any p g cap F B w h G v ps ht
  obtain ⟨q, m, cap0, rfl⟩ : ∃ q n cap, v = .slice q n cap := by obtain ⟨q, cap, e, _⟩ := ht; exact ⟨_, _, _, e⟩
  clear h ht
  unfold chkW
  generalize chk F ps = x at *
  by_cases a : x = 0
  · subst a
    rw [if_pos rfl]
    by_cases b1 : n = 1
    · subst b1
      go_enter Try.func101, Try.ntmps101
      go_wp2_with (go_at_call 61; refine k.mono ?_; rintro e w' ⟨rfl, hb⟩)
      go_ret
      exact ⟨rfl, hb⟩
    · by_cases b2 : n = 2
      · subst b2
        go_enter Try.func101, Try.ntmps101
        go_wp2_with (go_at_call 61; refine k.mono ?_; rintro e w' ⟨rfl, hb⟩)
        go_ret
        exact ⟨rfl, hb⟩
      · by_cases b3 : n = 4
        · subst b3
          go_enter Try.func101, Try.ntmps101
          go_wp2_with (go_at_call 61; refine k.mono ?_; rintro e w' ⟨rfl, hb⟩)
          go_ret
          exact ⟨rfl, hb⟩
        · rw [if_neg (by omega)]
          have e1 : (n != 1) = true := by simp [b1]
          have e2 : (n != 2) = true := by simp [b2]
          have e4 : (n != 4) = true := by simp [b3]
          go_enter Try.func101, Try.ntmps101
          go_wp2_with (go_at_call 61; refine k.mono ?_; rintro e w' ⟨rfl, hb⟩)
          go_ret
          exact ⟨rfl, hb⟩
  · rw [if_neg a]
    go_enter Try.func101, Try.ntmps101
    go_wp2_with (go_at_call 61; refine k.mono ?_; rintro e w' ⟨rfl, hb⟩)
    go_ret
    exact ⟨rfl, hb⟩
end Go.Proofs.Ytedhefidfepclaa
