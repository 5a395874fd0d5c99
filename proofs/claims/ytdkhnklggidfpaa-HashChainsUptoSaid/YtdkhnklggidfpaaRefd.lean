/- The document's first primes and numbers K: what the calls return; nothing that was there turns. Conditions: at most 64 primes. -/
import Derived.Test.YtdkhnklggidfpaaRefc
import Derived.Maps.AppendAt
namespace Go.Proofs.Ytdkhnklggidfpaa
open Go.RowKit
set_option linter.unusedVariables false

set_option maxRecDepth 100000 in
theorem prime_step : ∀ k, k < 64 → ∀ p, p < 312 → 2 ≤ p → (k = 0 ∨ primes.getD (k - 1) 0 < p) → p ≤ primes.getD k 0 → (primes.take k).all (fun q => p % q != 0) = (p == primes.getD k 0) := by decide +kernel
set_option maxRecDepth 100000 in
theorem primes_big : ∀ k, k < 64 → 2 ≤ primes.getD k 0 ∧ primes.getD k 0 < 312 := by decide +kernel
set_option maxRecDepth 100000 in
theorem primes_inc : ∀ k, k < 63 → primes.getD k 0 < primes.getD (k + 1) 0 := by decide +kernel
/-- no one of the first m primes parts q -/
def pB (q m : Nat) : Bool := (primes.take m).all (fun x => q % x != 0)
theorem pB_next (q m : Nat) (h : m < 64) : pB q (m + 1) = (pB q m && (q % primes.getD m 0 != 0)) := by
  unfold pB
  rw [List.take_succ_eq_append_getElem (show m < primes.length from h), List.all_append, List.getD_eq_getElem?_getD, List.getElem?_eq_getElem (show m < primes.length from h)]; simp
theorem primes_len : primes.length = 64 := rfl
theorem primes_snoc (k : Nat) (h : k < 64) : primes.take (k + 1) = primes.take k ++ [primes.getD k 0] := by
  rw [List.take_succ_eq_append_getElem (by rw [primes_len]; exact h), List.getD_eq_getElem?_getD, List.getElem?_eq_getElem (by rw [primes_len]; exact h)]; rfl

/-- numbers of 64 bits in a row of the call's own -/
def OwnU (w : World) (base : Nat) (v : Value) (l : List Nat) : Prop := w.ownsRow base 56 1 v l.length (l.map cellL) ∧ v ≠ .slice none 0 0
theorem OwnU.slice {w : World} {B : Nat} {v : Value} {l : List Nat} (h : OwnU w B v l) : ∃ g cap, v = .slice (some ⟨g, 0, none⟩) l.length cap ∧ B ≤ g ∧ RowU w g l := by
  obtain ⟨h0, hne⟩ := h
  have h1 := h0
  obtain ⟨hl, h2⟩ := h0
  rcases h2 with h2 | ⟨g, cap, cur, hv, hg, hrow, _⟩
  · exact absurd h2.1 hne
  · refine ⟨g, cap, hv, hg, block_lt hrow, fun i hi => ?_⟩
    subst hv
    rw [World.ownsRow.cellAt h1 i (by omega)]
    simp [cellL, List.getElem?_eq_getElem hi]
theorem OwnU.more {w' : World} {B : Nat} {v' : Value} {l : List Nat} {x : Nat} (h : w'.ownsRow B 56 1 v' (l.length + 1) (l.map cellL ++ [.int .u64 (x : Nat)])) (hne : v' ≠ .slice none 0 0) : OwnU w' B v' (l ++ [x]) := by
  refine ⟨?_, hne⟩
  have e1 : (l ++ [x]).length = l.length + 1 := by rw [List.length_append]; rfl
  have e2 : (l ++ [x]).map cellL = l.map cellL ++ [.int .u64 (x : Nat)] := by rw [List.map_append]; rfl
  rw [e1, e2]; exact h
theorem news1U (t : TypeId) (w : World) (x : Value) : ∀ j u, [x][j]? = some u → (w.alloc (.cells #[x] t)).cell? ((⟨w.heap.size, 0, none⟩ : Addr).add j) = some u := by
  intro j u hj
  match j, hj with
  | 0, hj => simp at hj; subst hj; simp [Addr.add]
theorem one1U (k : IntKind) (y : Int) : ∀ u ∈ [Value.int k y], u.oneCell' = true := by intro u hu; simp at hu; subst hu; rfl
theorem all_take {l : List Nat} (f : Nat → Bool) (m : Nat) (h : m < l.length) : (l.take (m + 1)).all f = ((l.take m).all f && f (l.getD m 0)) := by
  rw [List.take_succ_eq_append_getElem h, List.all_append, List.getD_eq_getElem?_getD, List.getElem?_eq_getElem h]; simp

set_option maxRecDepth 100000 in
set_option maxHeartbeats 2000000 in
theorem primes_any (n : Nat) (w : World) (hn : n ≤ 64) :
    Calls Try.prog 36 #[.int .i64 (n : Nat)] w fun e w' => ∃ g cap, e = .returned (.slice (some ⟨g, 0, none⟩) n cap) ∧ w.heap.size ≤ g ∧ RowU w' g (primes.take n) ∧ Below w.heap.size w w' := by
  obtain ⟨i0, hi, hz0, hz1, hz2⟩ := info_parts Try.info56
  have HI := Lib.hid (And.intro hi (And.intro hz0 (And.intro hz1 hz2)))
  clear hi hz0 hz1 hz2
  obtain ⟨D, hD⟩ : ∃ D, D = w.heap.size := ⟨_, rfl⟩
  have own0 : OwnU (w.alloc (.cells #[] 56)) D (.slice (some ⟨D, 0, none⟩) 0 0) [] := by
    rw [hD]; exact ⟨World.ownsRow_made w #[] 0 (Nat.le_refl _) (by decide) rfl, by simp⟩
  have b0 : Below D w (w.alloc (.cells #[] 56)) := by rw [hD]; exact (Below.refl _ _).alloc (Nat.le_refl _) _
  have h0s : D ≤ (w.alloc (.cells #[] 56)).heap.size := by rw [hD]; simp
  have HD := Lib.hid hD
  clear hD
  go_enter Try.func36, Try.ntmps36
  go_wp2
  rw [← HD.out]
  go_loopw [3, 4, 5, 6] (fun l p _ _ wr => ∃ (k q : Nat), k ≤ n ∧ p = .int .u64 (q : Nat) ∧ OwnU wr D l (primes.take k) ∧ 2 ≤ q ∧ (k = 0 ∨ primes.getD (k - 1) 0 < q) ∧ (k < n → q ≤ primes.getD k 0) ∧ q ≤ 400 ∧ Below D w wr ∧ D ≤ wr.heap.size) (fun _ p _ _ _ => 400 - (intOf p).toNat)
  case atStart => exact ⟨0, 2, by omega, rfl, own0, by omega, .inl rfl, fun _ => (primes_big 0 (by omega)).1, by omega, b0, h0s⟩
  case round =>
    obtain ⟨k, q, hk, rfl, ow, hq2, hq3, hq4, hq5, hb, hbs⟩ := hrel
    clear own0 b0 h0s
    have hkl : (primes.take k).length = k := by rw [List.length_take, primes_len]; omega
    by_cases hlt : k < n
    · have hqk := hq4 hlt
      have hpb := primes_big k (by omega)
      have HST := Lib.hid (prime_step k (by omega) q (by omega) hq2 hq3 hqk)
      have HQ := Lib.hid hq3
      obtain ⟨g, cap, rfl, hg, hro⟩ := ow.slice
      have HOW2 := Lib.hid ow
      rw [hkl]
      rw [hkl] at ow HOW2
      have HOW := Lib.hid ow
      have HRO := Lib.hid hro
      clear ow hro hq3 hq4
      go_wp2
      go_loop [5, 6] (fun pr i => ∃ m : Nat, m ≤ k ∧ i = .int .i64 m ∧ pr = .bool (pB q m)) (fun _ i => k - (intOf i).toNat)
      case atStart => exact ⟨0, by omega, rfl, rfl⟩
      case round =>
        obtain ⟨m, hm, rfl, rfl⟩ := hrel
        by_cases hlm : m < k
        · have hc : wr.cell? ⟨g, m, none⟩ = some (.int .u64 (primes.getD m 0 : Nat)) := by
            rw [HRO.out.2 m (by rw [hkl]; exact hlm)]
            congr 3
            simp [List.getD, hlm]
          have hx2 := (primes_big m (by omega)).1
          have HN := Lib.hid (pB_next q m (by omega))
          generalize primes.getD m 0 = x at *
          have hx0 : ¬ (x : Int) = 0 := by omega
          by_cases hp : pB q m = true
          · rw [hp]
            by_cases hz : q % x = 0
            · have hz2 : (q : Int) % (x : Int) = 0 := by rw [← Int.natCast_emod, hz]; rfl
              have HB : Hid (pB q (m + 1) = false) := by unfold Hid; rw [HN.out, hp, hz]; rfl
              clear hp hz
              go_wp2
              go_round
              case rel => exact ⟨m + 1, by omega, by go_num, by rw [HB.out]⟩
              case measure => simp [intOf]; omega
            · have hz2 : ¬ (q : Int) % (x : Int) = 0 := by rw [← Int.natCast_emod]; omega
              have HB : Hid (pB q (m + 1) = true) := by unfold Hid; rw [HN.out, hp]; simpa using hz
              clear hp hz
              go_wp2
              go_round
              case rel => exact ⟨m + 1, by omega, by go_num, by rw [HB.out]; simp [hz2]⟩
              case measure => simp [intOf]; omega
          · have hp2 : pB q m = false := by simpa using hp
            have HB : Hid (pB q (m + 1) = false) := by unfold Hid; rw [HN.out, hp2]; rfl
            rw [hp2]
            clear hp hp2
            go_wp2
            go_round
            case rel => exact ⟨m + 1, by omega, by go_num, by rw [HB.out]⟩
            case measure => simp [intOf]; omega
        · have hmk : m = k := by omega
          subst hmk
          have hst : pB q m = (q == primes.getD m 0) := HST.out
          by_cases hqp : q = primes.getD m 0
          · have hp : pB q m = true := by rw [hst]; simpa using hqp
            rw [hp]
            have HQP := Lib.hid hqp
            clear hqp hst hp
            go_wp2_with (at_builtin; refine wpList_append_own_at _ rfl (.tmp 31) (.tmp 33) 59 rfl D 56 i0 (.int .u64 0) 1 8 Try.underlying59 HI.out.1 HI.out.2.1 HI.out.2.2.1 HI.out.2.2.2 rfl (by decide) _ _ _ rfl (HOW.out.1.alloc _) ⟨wr.heap.size, 0, none⟩ 1 1 [Value.int .u64 (q : Nat)] rfl rfl (news1U 56 _ _) (one1U _ _) (by rw [hkl]; unfold maxLen; omega) (by rw [hkl]; omega) (by simp; omega) ?_; intro v' w2 ob gr nil_ at_; have OB := Lib.hid (And.intro ob (And.intro gr (And.intro nil_ at_))); clear ob gr nil_ at_)
            have nb : v' ≠ .slice none 0 0 := fun h => HOW.out.2 (OB.out.2.2.1.1 h).1
            have fb : OwnU w2 D v' (primes.take m ++ [q]) := OwnU.more OB.out.1 nb
            have G2 : Below D w w2 := (hb.alloc (by exact hbs) _).grown OB.out.2.1 (by simp; omega) (fun g' hg' => by have := (HOW.out.1.lt g' hg').1; omega)
            have hDv2 : D ≤ w2.heap.size := Nat.le_trans (by simp; omega) OB.out.2.1.size
            have hsn := primes_snoc m (by omega)
            rw [← HQP.out] at hsn
            rw [← hsn] at fb
            have HSN := Lib.hid hsn
            clear hsn nb
            go_roundw
            case rel =>
              refine ⟨m + 1, q + 1, by omega, by go_num, fb, by omega, .inr ?_, fun h => ?_, by omega, G2, hDv2⟩
              · rw [Nat.add_sub_cancel, ← HQP.out]; omega
              · have := primes_inc m (by omega); rw [← HQP.out] at this; omega
            case measure => simp [intOf]; omega
          · have hp : pB q m = false := by rw [hst]; simpa using hqp
            rw [hp]
            have HQP := Lib.hid hqp
            have hqlt : q < primes.getD m 0 := by omega
            clear hqp hst hp
            go_wp2
            go_roundw
            case rel => exact ⟨m, q + 1, by omega, by go_num, HOW2.out, by omega, by rcases HQ.out with h | h; exact .inl h; exact .inr (by omega), fun _ => by omega, by omega, hb, hbs⟩
            case measure => simp [intOf]; omega
    · have hkn : k = n := by omega
      subst hkn
      obtain ⟨g, cap, rfl, hg, hro⟩ := ow.slice
      rw [hkl]
      clear ow hkl
      go_wp2
      go_ret
      exact ⟨g, cap, rfl, by rw [← HD.out]; exact hg, hro, by rw [← HD.out]; exact hb⟩

set_option maxRecDepth 100000 in
theorem root_of {p : Nat} (h : ∃ i, i < 64 ∧ p = primes.getD i 0) : p < 512 := by
  obtain ⟨i, hi, rfl⟩ := h
  have := (primes_big i hi).2
  omega
end Go.Proofs.Ytdkhnklggidfpaa
