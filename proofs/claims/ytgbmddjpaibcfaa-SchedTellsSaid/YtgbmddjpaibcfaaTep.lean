/- Ticks counted one by one are the ticks by windows; the first tick that begins such a window is the next one. No memory. Conditions: windows that may be. -/
import Derived.Test.YtgbmddjpaibcfaaFap
namespace Go.Proofs.Ytgbmddjpaibcfaa
open Go.RowKit Go.Maps
set_option linter.unusedVariables false

def isW (ws : List Wn) (kd ix : Int) (i : Nat) : Bool := isB (ws.getD i w0).1 (ws.getD i w0).2.1 kd ix
/-- is tick r of a major frame in such a window? -/
def isR (ws : List Wn) (kd ix : Int) (r : Nat) : Bool := isW ws kd ix (loc (tks ws) r).1
/-- how many of the first r ticks are -/
def cntR (ws : List Wn) (kd ix : Int) : Nat → Nat
  | 0 => 0
  | r + 1 => cntR ws kd ix r + if isR ws kd ix r = true then 1 else 0
def cntS (ws : List Wn) (kd ix : Int) (m r : Nat) : Nat := ((List.range m).map fun i => if isW ws kd ix i = true then min (r - bnd (tks ws) i) ((tks ws).getD i 0) else 0).sum
theorem cntS_succ (ws : List Wn) (kd ix : Int) (m r : Nat) : cntS ws kd ix (m + 1) r = cntS ws kd ix m r + if isW ws kd ix m = true then min (r - bnd (tks ws) m) ((tks ws).getD m 0) else 0 := by
  unfold cntS; rw [List.range_succ]; simp
theorem loc_in {ns : List Nat} {r : Nat} (h : r < ns.sum) : ∃ (hk : (loc ns r).1 < ns.length), bnd ns (loc ns r).1 ≤ r ∧ r < bnd ns ((loc ns r).1 + 1) ∧ (loc ns r).2 = r - bnd ns (loc ns r).1 := by
  obtain ⟨k, o, hk, h1, h2, h3⟩ := loc_spec ns r h
  rw [h1]
  refine ⟨hk, by show bnd ns k ≤ r; omega, ?_, by show o = r - bnd ns k; omega⟩
  show r < bnd ns (k + 1)
  rw [bnd_succ ns k hk]; omega
theorem cntS_step {ws : List Wn} (kd ix : Int) {r : Nat} (h : r < (tks ws).sum) : ∀ m, m ≤ ws.length → cntS ws kd ix m (r + 1) = cntS ws kd ix m r + if (loc (tks ws) r).1 < m ∧ isR ws kd ix r = true then 1 else 0
  | 0, _ => by simp [cntS]
  | m + 1, hm => by
    have ih := cntS_step kd ix h m (by omega)
    rw [cntS_succ, cntS_succ, ih]
    obtain ⟨hk, h1, h2, _⟩ := loc_in h
    have hml : m < (tks ws).length := by rw [tks_len]; omega
    have e : (tks ws).getD m 0 = (tks ws)[m] := by rw [List.getD_eq_getElem?_getD, List.getElem?_eq_getElem hml]; rfl
    have hs := bnd_succ (tks ws) m hml
    obtain ⟨t, hte⟩ : ∃ t, t = (tks ws)[m] := ⟨_, rfl⟩
    rw [e, ← hte]
    rw [← hte] at hs
    clear e hte
    obtain ⟨k, hke⟩ : ∃ k, k = (loc (tks ws) r).1 := ⟨_, rfl⟩
    have hR : isR ws kd ix r = isW ws kd ix k := by unfold isR; rw [hke]
    rw [← hke] at hk h1 h2 ⊢
    rw [hR]
    by_cases c : k = m
    · subst c
      rw [if_neg (show ¬ (k < k ∧ isW ws kd ix k = true) from fun q => Nat.lt_irrefl _ q.1)]
      cases isW ws kd ix k with
      | false => simp
      | true =>
        simp
        omega
    · by_cases c2 : k < m
      · have hle := bnd_mono (tks ws) (i := k + 1) (j := m) (by omega)
        have e3 : r + 1 - bnd (tks ws) m = 0 := by omega
        have e4 : r - bnd (tks ws) m = 0 := by omega
        rw [e3, e4]
        cases isW ws kd ix k with
        | false => simp
        | true =>
          have c3 : k < m + 1 := by omega
          simp [c2, c3]
      · have hle := bnd_mono (tks ws) (i := m + 1) (j := k) (by omega)
        have e3 : min (r + 1 - bnd (tks ws) m) t = t := by omega
        have e4 : min (r - bnd (tks ws) m) t = t := by omega
        rw [e3, e4, if_neg (show ¬ (k < m ∧ isW ws kd ix k = true) from fun q => c2 q.1), if_neg (show ¬ (k < m + 1 ∧ isW ws kd ix k = true) from fun q => by omega)]
        omega
theorem cnt_is {ws : List Wn} (kd ix : Int) : ∀ r, r ≤ (tks ws).sum → cntR ws kd ix r = cntS ws kd ix ws.length r
  | 0, _ => by
    have : ∀ m, cntS ws kd ix m 0 = 0 := by
      intro m
      induction m with
      | zero => simp [cntS]
      | succ m ih => rw [cntS_succ, ih]; simp
    rw [this]; rfl
  | r + 1, h => by
    have ih := cnt_is (ws := ws) kd ix r (by omega)
    have hrs : r < (tks ws).sum := by omega
    obtain ⟨hk, _⟩ := loc_in hrs
    rw [cntS_step kd ix (by omega) ws.length (Nat.le_refl _), ← ih]
    rw [tks_len] at hk
    show cntR ws kd ix r + _ = _
    cases isR ws kd ix r with
    | false => simp
    | true => rw [if_pos rfl, if_pos ⟨hk, rfl⟩]
/-- how many ticks ahead of T are in such windows -/
def upV (ws : List Wn) (kd ix : Int) (T : Nat) : Nat := cntR ws kd ix (lenN ws) * (T / lenN ws) + cntR ws kd ix (T % lenN ws)
theorem sumN_add (f g : Nat → Nat) (c : Nat) : ∀ l : List Nat, (l.map f).sum * c + (l.map g).sum = (l.map fun i => f i * c + g i).sum
  | [] => by simp
  | i :: l => by
    rw [List.map_cons, List.map_cons, List.map_cons, List.sum_cons, List.sum_cons, List.sum_cons, ← sumN_add f g c l, Nat.add_mul]; omega
theorem sumN_congr {f g : Nat → Nat} : ∀ (l : List Nat), (∀ i ∈ l, f i = g i) → (l.map f).sum = (l.map g).sum
  | [], _ => rfl
  | i :: l, h => by
    rw [List.map_cons, List.map_cons, List.sum_cons, List.sum_cons, h i List.mem_cons_self, sumN_congr l (fun j hj => h j (List.mem_cons_of_mem _ hj))]
theorem upV_is {ws : List Wn} (hok : okL ws) (kd ix : Int) (T : Nat) : upV ws kd ix T = ((List.range ws.length).map fun i => if isW ws kd ix i = true then ahd (bnd (tks ws) i) ((tks ws).getD i 0) (lenN ws) T else 0).sum := by
  have hL := lenN_ok hok
  have hm := Nat.mod_lt T (show 0 < lenN ws by omega)
  unfold upV
  rw [cnt_is kd ix (lenN ws) (Nat.le_refl _), cnt_is kd ix (T % lenN ws) (Nat.le_of_lt hm)]
  unfold cntS
  rw [sumN_add]
  refine sumN_congr _ fun i hi => ?_
  have hi := List.mem_range.1 hi
  have hil : i < (tks ws).length := by rw [tks_len]; exact hi
  have e : (tks ws).getD i 0 = (tks ws)[i] := by rw [List.getD_eq_getElem?_getD, List.getElem?_eq_getElem hil]; rfl
  have hs := bnd_succ (tks ws) i hil
  rw [← e] at hs
  have hle := bnd_mono (tks ws) (i := i + 1) (j := (tks ws).length) hil
  rw [bnd_all] at hle
  have hle2 : bnd (tks ws) (i + 1) ≤ lenN ws := hle
  cases isW ws kd ix i with
  | false => simp
  | true =>
    rw [if_pos rfl, if_pos rfl, if_pos rfl, show min (lenN ws - bnd (tks ws) i) ((tks ws).getD i 0) = (tks ws).getD i 0 by omega]
    unfold ahd
    rw [Nat.mul_comm]
theorem sumI_sub (p : Nat → Bool) (f g : Nat → Nat) : ∀ l : List Nat, (((l.map fun i => if p i = true then f i else 0).sum : Nat) : Int) - (((l.map fun i => if p i = true then g i else 0).sum : Nat) : Int) = (l.map fun i => if p i = true then (f i : Int) - (g i : Int) else 0).sum
  | [] => by simp
  | i :: l => by
    have ih := sumI_sub p f g l
    rw [List.map_cons, List.map_cons, List.map_cons, List.sum_cons, List.sum_cons, List.sum_cons, ← ih]
    cases p i <;> simp <;> omega
theorem up_sub {ws : List Wn} (hok : okL ws) (kd ix : Int) (F T : Nat) : (upV ws kd ix T : Int) - (upV ws kd ix F : Int) = tkN ws kd ix F T := by
  rw [upV_is hok, upV_is hok, sumI_sub]
  rfl
theorem cntR_le (ws : List Wn) (kd ix : Int) : ∀ r, cntR ws kd ix r ≤ r
  | 0 => Nat.le_refl _
  | r + 1 => by
    have := cntR_le ws kd ix r
    show _ + _ ≤ _
    split <;> omega
/-- does tick n begin such a window? -/
def conN (ws : List Wn) (kd ix : Int) (n : Nat) : Prop := (loc (tks ws) (n % lenN ws)).2 = 0 ∧ isR ws kd ix (n % lenN ws) = true
theorem next_spec {ws : List Wn} (hok : okL ws) (kd ix : Int) (F : Nat) :
    (∃ x : Nat, nextN ws kd ix F = ((x : Int), 0) ∧ F ≤ x ∧ x < F + lenN ws ∧ conN ws kd ix x ∧ ∀ n, F ≤ n → n < x → ¬ conN ws kd ix n) ∨ (nextN ws kd ix F = (0, 130) ∧ ∀ n, F ≤ n → n < F + lenN ws → ¬ conN ws kd ix n) := by
  have hL := lenN_ok hok
  have hdm := Nat.div_add_mod F (lenN ws)
  have hm := Nat.mod_lt F (show 0 < lenN ws by omega)
  obtain ⟨Q, hQ⟩ : ∃ Q, Q = F / lenN ws := ⟨_, rfl⟩
  have hb : F - F % lenN ws = Q * lenN ws := by rw [hQ, Nat.mul_comm]; omega
  have hb2 : F - F % lenN ws + lenN ws = (Q + 1) * lenN ws := by rw [hb, Nat.add_mul, Nat.one_mul]
  -- a tick that begins such a window
  have hcon : ∀ n, conN ws kd ix n → ∃ j, j < ws.length ∧ isW ws kd ix j = true ∧ n = n / lenN ws * lenN ws + bnd (tks ws) j := by
    intro n hn
    obtain ⟨hk, h1, h2, h3⟩ := loc_in (show n % lenN ws < (tks ws).sum from Nat.mod_lt _ (by omega))
    refine ⟨_, by rw [tks_len] at hk; exact hk, hn.2, ?_⟩
    have := Nat.div_add_mod n (lenN ws)
    have h4 := hn.1
    rw [h3] at h4
    rw [Nat.mul_comm] at this
    omega
  have hbeg : ∀ q i, i < ws.length → isW ws kd ix i = true → conN ws kd ix (q * lenN ws + bnd (tks ws) i) := by
    intro q i hi hw
    have hbl := bnd_L hok hi
    have hu := (Nat.div_mod_unique (show 0 < lenN ws by omega)).2 (⟨by rw [Nat.mul_comm]; omega, hbl⟩ : bnd (tks ws) i + lenN ws * q = q * lenN ws + bnd (tks ws) i ∧ bnd (tks ws) i < lenN ws)
    have hil : i < (tks ws).length := by rw [tks_len]; exact hi
    have hs := bnd_succ (tks ws) i hil
    have hp := (tks_le hok _ (List.getElem_mem hil)).1
    have hl := loc_is (tks ws) (bnd (tks ws) i) i hil (Nat.le_refl _) (by omega)
    unfold conN isR
    rw [hu.2, hl]
    exact ⟨Nat.sub_self _, hw⟩
  -- where a tick in reach lies
  have hreach : ∀ n, F ≤ n → n < F + lenN ws → n / lenN ws = Q ∨ n / lenN ws = Q + 1 := by
    intro n h1 h2
    have a1 := Nat.div_le_div_right (c := lenN ws) h1
    have a2 := Nat.div_le_div_right (c := lenN ws) (Nat.le_of_lt h2)
    rw [Nat.add_div_right _ (by omega)] at a2
    omega
  cases h1 : (List.range ws.length).find? (hitB ws kd ix F (F - F % lenN ws)) with
  | some i =>
    have h2 := h1
    rw [List.find?_range_eq_some] at h2
    obtain ⟨h3, h4, h5⟩ := h2
    have h4 := List.mem_range.1 h4
    unfold hitB at h3
    rw [Bool.and_eq_true, decide_eq_true_eq, hb] at h3
    have hbl := bnd_L hok h4
    refine .inl ⟨Q * lenN ws + bnd (tks ws) i, by unfold nextN; rw [h1, ← hb], h3.2, by omega, hbeg Q i h4 h3.1, fun n hn1 hn2 hc => ?_⟩
    obtain ⟨j, hj, hjw, hne⟩ := hcon n hc
    have hq : n / lenN ws = Q := by
      rcases hreach n hn1 (by omega) with e | e
      · exact e
      · rw [e, Nat.add_mul, Nat.one_mul] at hne; omega
    rw [hq] at hne
    have hji : j < i := by
      rcases Nat.lt_or_ge j i with h | h
      · exact h
      · have := bnd_mono (tks ws) h; omega
    have := h5 j hji
    unfold hitB at this
    rw [hb, show isB _ _ kd ix = true from hjw, decide_eq_true (by omega)] at this
    simp at this
  | none =>
    rw [List.find?_eq_none] at h1
    have hnq : ∀ n, F ≤ n → conN ws kd ix n → n / lenN ws ≠ Q := by
      intro n hn1 hc hq
      obtain ⟨j, hj, hjw, hne⟩ := hcon n hc
      rw [hq] at hne
      refine h1 j (List.mem_range.2 hj) ?_
      unfold hitB
      rw [hb, show isB _ _ kd ix = true from hjw, decide_eq_true (by omega)]; rfl
    have h1' : (List.range ws.length).find? (hitB ws kd ix F (F - F % lenN ws)) = none := List.find?_eq_none.2 h1
    cases h2 : (List.range ws.length).find? (hitB ws kd ix F (F - F % lenN ws + lenN ws)) with
    | some i =>
      have h3 := h2
      rw [List.find?_range_eq_some] at h3
      obtain ⟨h3, h4, h5⟩ := h3
      have h4 := List.mem_range.1 h4
      unfold hitB at h3
      rw [Bool.and_eq_true, decide_eq_true_eq, hb2] at h3
      have h6 := h1 i (List.mem_range.2 h4)
      unfold hitB at h6
      rw [h3.1, Bool.true_and, decide_eq_true_eq, hb] at h6
      have h7 : (Q + 1) * lenN ws = Q * lenN ws + lenN ws := by rw [Nat.add_mul, Nat.one_mul]
      refine .inl ⟨(Q + 1) * lenN ws + bnd (tks ws) i, by unfold nextN; rw [h1', h2, ← hb2], by omega, by omega, hbeg (Q + 1) i h4 h3.1, fun n hn1 hn2 hc => ?_⟩
      obtain ⟨j, hj, hjw, hne⟩ := hcon n hc
      have hq : n / lenN ws = Q + 1 := by
        rcases hreach n hn1 (by omega) with e | e
        · exact absurd e (hnq n hn1 hc)
        · exact e
      rw [hq] at hne
      have hji : j < i := by
        rcases Nat.lt_or_ge j i with h | h
        · exact h
        · have := bnd_mono (tks ws) h; omega
      have := h5 j hji
      unfold hitB at this
      rw [hb2, show isB _ _ kd ix = true from hjw, decide_eq_true (by omega)] at this
      simp at this
    | none =>
      refine .inr ⟨by unfold nextN; rw [h1', h2], fun n hn1 hn2 hc => ?_⟩
      rw [List.find?_eq_none] at h2
      obtain ⟨j, hj, hjw, hne⟩ := hcon n hc
      refine h2 j (List.mem_range.2 hj) ?_
      unfold hitB
      have h7 : (Q + 1) * lenN ws = Q * lenN ws + lenN ws := by rw [Nat.add_mul, Nat.one_mul]
      rw [hb2, show isB _ _ kd ix = true from hjw, decide_eq_true (by omega)]; rfl
end Go.Proofs.Ytgbmddjpaibcfaa
