/- What a form says, a number's text, and may an instruction be: the document's own answers. Conditions: numbers below 2^32, texts that a machine holds. -/
import Derived.Test.YtmclcobklcjmnaaDoorRfa
namespace Go.Proofs.YtmclcobklcjmnaaDoor
open Go.RowKit Go.Maps
set_option linter.unusedVariables false
set_option linter.unusedSimpArgs false

set_option maxRecDepth 20000 in
set_option maxHeartbeats 4000000 in
theorem rhas_any (s : ByteArray) (hs : s.size ≤ 140737488351232) (c : UInt8) (w : World) : Calls Tryd.prog 52 #[.string s, .int .u8 (c.toNat : Int)] w fun e w' => e = .returned (.bool (decide (c ∈ s.data.toList))) ∧ w' = w := by
  have hl : s.data.toList.length = s.size := Array.length_toList
  go_enter Tryd.func52, Tryd.ntmps52
  go_wp2
  go_loopw [5] (fun i wr => ∃ j : Nat, i = .int .i64 (j : Int) ∧ j ≤ s.size ∧ (∀ (k : Nat) (h : k < s.data.toList.length), k < j → s.data.toList[k] ≠ c) ∧ wr = w) (fun i _ => s.size - (intOf i).toNat)
  case atStart => exact ⟨0, rfl, Nat.zero_le _, (fun k h hk => by omega), rfl⟩
  case round =>
    obtain ⟨j, rfl, hj, hall, rfl⟩ := hrel
    by_cases hjs : j < s.size
    · have hjI : (j : Int) < (s.size : Int) := by omega
      have hj0 : (0 : Int) ≤ (j : Int) := by omega
      have hcj : s.data.toList[j]'(by omega) = s[j] := by simp [ByteArray.getElem_eq_getElem_data]
      have q1 : IntKind.i64.wrap ((j : Int) + 1) = (j : Int) + 1 := IntWalk.i64_in _ (by omega)
      by_cases hc : s[j] = c
      · have hx : ((s[j].toNat : Int) == (c.toNat : Int)) = true := by rw [hc]; simp
        have HM : Hid (decide (c ∈ s.data.toList) = true) := Lib.hid (decide_eq_true (by rw [← hc, ← hcj]; exact List.getElem_mem _))
        clear hall hcj hc
        go_wp2
        go_ret
        exact ⟨by rw [HM.out]; rfl, rfl⟩
      · have hx : ((s[j].toNat : Int) == (c.toNat : Int)) = false := by
          have : ¬ s[j].toNat = c.toNat := fun e => hc (UInt8.toNat_inj.1 e)
          simp; omega
        have HY : Hid (∀ (k : Nat) (h : k < s.data.toList.length), k < j + 1 → s.data.toList[k] ≠ c) := Lib.hid fun k h hk1 => by
          by_cases e : k = j
          · subst e; rw [hcj]; exact hc
          · exact hall k h (by omega)
        clear hall hcj hc
        go_wp2
        first
          | exact ⟨⟨j + 1, by first | rfl | (exact congrArg (Value.int .i64) (by omega)), by omega, HY.out, by first | rfl | trivial⟩, by simp [intOf]; omega⟩
          | (go_roundw
             case rel => exact ⟨j + 1, by first | rfl | (exact congrArg (Value.int .i64) (by omega)), by omega, HY.out, by first | rfl | trivial⟩
             case measure => simp [intOf]; omega)
    · obtain rfl : j = s.size := by omega
      have HM : Hid (decide (c ∈ s.data.toList) = false) := Lib.hid (decide_eq_false (fun hm => by
        obtain ⟨k, hk, e⟩ := List.getElem_of_mem hm
        exact hall k hk (by omega) e))
      clear hall
      go_wp2
      go_ret
      exact ⟨by rw [HM.out]; rfl, rfl⟩
end Go.Proofs.YtmclcobklcjmnaaDoor

namespace Go.Proofs.YtmclcobklcjmnaaDoor
open Go.RowKit Go.Maps
set_option linter.unusedVariables false
set_option linter.unusedSimpArgs false

theorem dec_step (u : Nat) (s : Bs) : (u < 10 → Lib.decDigits u ++ s = UInt8.ofNat (48 + u % 10) :: s) ∧ (¬ u < 10 → Lib.decDigits (u / 10) ++ (UInt8.ofNat (48 + u % 10) :: s) = Lib.decDigits u ++ s) := by
  refine ⟨fun h => ?_, fun h => ?_⟩
  · rw [Lib.decDigits_one h, Nat.mod_eq_of_lt h]; rfl
  · have : Lib.decDigits u = Lib.decDigits (u / 10) ++ [UInt8.ofNat (48 + u % 10)] := by rw [Lib.decDigits, dif_neg h]
    rw [this]
    simp
theorem conv_one (w : World) (c : UInt8) (x : Int) (hx : x = (c.toNat : Int)) : (convert 37 9 (.slice (some ⟨w.heap.size, 0, none⟩) 1 1)).run Tryd.prog (w.alloc (.cells #[.int .u8 x] 5)) = .ok (.string (str [c])) (w.alloc (.cells #[.int .u8 x] 5)) := by
  subst hx
  exact run_convert_bytes_back (P := Tryd.prog) _ 37 9 5 ⟨w.heap.size, 0, none⟩ 1 [c] Tryd.underlying37 Tryd.underlying5 Tryd.underlying9 (fun j hj => by
    obtain rfl : j = 0 := by simp at hj; omega
    exact cell_of_row _ w.heap.size 0 _ _ _ (World.alloc_heap_new w _))
theorem dig_byte (u : Nat) : ((UInt8.ofNat (48 + u % 10)).toNat : Int) = 48 + (u % 10 : Nat) := by
  have : u % 10 < 10 := Nat.mod_lt _ (by omega)
  rw [UInt8.toNat_ofNat']
  omega
def empV : Value → Nat
  | .string b => if b.size = 0 then 1 else 0
  | _ => 0
theorem str_cons (c : UInt8) (s : Bs) : str [c] ++ str s = str (c :: s) := by
  apply ByteArray.ext
  apply Array.ext'
  simp [str]
set_option maxRecDepth 20000 in
set_option maxHeartbeats 4000000 in
theorem rdig_pos (u : Nat) (hu : u < 4294967296) (w : World) : Calls Tryd.prog 37 #[.int .i64 (u : Int)] w fun e w' => e = .returned (.string (str (Lib.decDigits u))) ∧ Below w.heap.size w w' := by
  go_enter Tryd.func37, Tryd.ntmps37
  go_wp2
  go_loopw [3, 4] (fun a3 a4 wr => ∃ (m : Nat) (s : Bs), a3 = .string (str s) ∧ a4 = .int .i64 (m : Int) ∧ m ≤ u ∧ s.length ≤ 40 ∧ ((m ≠ 0 ∨ s = []) ∧ Lib.decDigits m ++ s = Lib.decDigits u ∧ s.length + Lib.nDigits m ≤ 20 ∨ m = 0 ∧ s = Lib.decDigits u ∧ s ≠ []) ∧ Below w.heap.size w wr) (fun a3 a4 _ => 2 * (intOf a4).natAbs + empV a3)
  case atStart => exact ⟨u, [], rfl, rfl, Nat.le_refl _, by simp, .inl ⟨.inr rfl, by simp, by have := Lib.nDigits_le20 u (by omega); simp; omega⟩, Below.refl _ _⟩
  case round =>
    obtain ⟨m, s, rfl, rfl, hm, hsl, hcase, hbel⟩ := hrel
    rcases hcase with ⟨hc, heq, hlen⟩ | ⟨rfl, rfl, hne⟩
    · by_cases hm0 : m = 0
      · subst hm0
        obtain rfl : s = [] := by rcases hc with h | h; exact absurd rfl h; exact h
        have es : str [] = ByteArray.mk #[] := rfl
        have hcv := conv_one wr 48 48 rfl
        have hfin : [(48 : UInt8)] = Lib.decDigits u := by rw [← heq, Lib.decDigits_one (by omega)]; rfl
        have hst : str [48] ++ ByteArray.mk #[] = str (Lib.decDigits u) := by rw [← hfin, ← es, str_cons]
        have hsz : ¬ 281474976710656 < (str [48]).size + (ByteArray.mk #[]).size := by decide
        have hs1 : (str [48]).size = 1 := rfl
        have HF : Hid (Below w.heap.size w (wr.alloc (.cells #[.int .u8 48] 5)) ∧ [(48 : UInt8)] = Lib.decDigits u) := Lib.hid ⟨hbel.alloc hbel.size _, hfin⟩
        rw [es]
        clear hbel heq hlen hc hfin
        go_wp2
        go_roundw
        case rel => exact ⟨0, Lib.decDigits u, rfl, rfl, Nat.zero_le _, by rw [← HF.out.2]; simp, .inr ⟨rfl, rfl, by rw [← HF.out.2]; simp⟩, HF.out.1⟩
        case measure =>
          have hz : (str (Lib.decDigits u)).size = 1 := by rw [← HF.out.2]; rfl
          have hz2 : (ByteArray.mk #[]).size = 0 := rfl
          simp [intOf, empV, hz, hz2]
      · have hmI : ((m : Int) != 0) = true := by simp; omega
        have hmI2 : ¬ (m : Int) = 0 := by omega
        obtain ⟨r, hr⟩ : ∃ r, r = m % 10 := ⟨_, rfl⟩
        obtain ⟨q, hq⟩ : ∃ q, q = m / 10 := ⟨_, rfl⟩
        have hr10 : r < 10 := by omega
        have hrI : (m : Int) % 10 = (r : Int) := by omega
        have hqI : (m : Int) / 10 = (q : Int) := by omega
        have hr0 : ¬ (r : Int) < 0 := by omega
        have hr1 : (0 : Int) ≤ (r : Int) := by omega
        obtain ⟨c, hcd⟩ : ∃ c, c = UInt8.ofNat (48 + m % 10) := ⟨_, rfl⟩
        have hcn : 48 + (r : Int) = (c.toNat : Int) := by rw [hcd, dig_byte, ← hr]
        have q1 : IntKind.i64.wrap (48 + (r : Int)) = 48 + (r : Int) := IntWalk.i64_in _ (by omega)
        have q2 : IntKind.u8.wrap (48 + (r : Int)) = 48 + (r : Int) := IntWalk.u8_in _ (by omega)
        have q3 : IntKind.i64.wrap (q : Int) = (q : Int) := IntWalk.i64_in _ (by omega)
        have q4 : IntKind.i64.wrap (r : Int) = (r : Int) := IntWalk.i64_in _ (by omega)
        have hcv := conv_one wr c (48 + (r : Int)) hcn
        have hst := str_cons c s
        have hs1 : (str [c]).size = 1 := rfl
        have hs2 : (str s).size = s.length := str_size s
        have hsz : ¬ 281474976710656 < 1 + s.length := by omega
        have hstep := dec_step m s
        rw [← hcd, ← hq] at hstep
        have hnew : (q ≠ 0 ∨ c :: s = []) ∧ Lib.decDigits q ++ c :: s = Lib.decDigits u ∧ (c :: s).length + Lib.nDigits q ≤ 20 ∨ q = 0 ∧ c :: s = Lib.decDigits u ∧ c :: s ≠ [] := by
          by_cases h10 : m < 10
          · exact .inr ⟨by omega, by rw [← hstep.1 h10, heq], by simp⟩
          · refine .inl ⟨.inl (by omega), by rw [hstep.2 h10, heq], ?_⟩
            rw [Lib.nDigits_big h10, ← hq] at hlen
            simp only [List.length_cons]
            omega
        have hl2 : (c :: s).length ≤ 40 := by have := Lib.nDigits_pos m; simp only [List.length_cons]; omega
        have HF : Hid (Below w.heap.size w (wr.alloc (.cells #[.int .u8 (48 + (r : Int))] 5))) := Lib.hid (hbel.alloc hbel.size _)
        have HN := Lib.hid hnew
        have hqm : q ≤ u ∧ q < m := by omega
        clear hbel heq hlen hc hnew hstep hcd hcn hr hq
        go_wp2
        go_roundw
        case rel => exact ⟨q, c :: s, by first | rfl | (rw [← hst]), by first | rfl | simp, hqm.1, hl2, HN.out, HF.out⟩
        case measure => simp [intOf, empV, str_size]; omega
    · obtain ⟨D, hD⟩ : ∃ D, D = str (Lib.decDigits u) := ⟨_, rfl⟩
      have hDn : ¬ D = ByteArray.mk #[] := by
        intro e
        have : (str (Lib.decDigits u)).size = 0 := by rw [← hD, e]; rfl
        rw [str_size] at this
        exact hne (List.eq_nil_of_length_eq_zero this)
      have hDl : D.toList = Lib.decDigits u := by rw [hD, ByteArray.toList_eq, str_list]
      have hem : (Lib.decDigits u).isEmpty = false := by cases h : Lib.decDigits u with
        | nil => exact absurd h hne
        | cons _ _ => rfl
      have HB := Lib.hid (And.intro hbel hD)
      have hu0 : ¬ (u : Int) < 0 := by omega
      rw [← hD]
      clear hbel hD hne
      go_wp2
      go_ret
      exact ⟨by rw [← HB.out.2]; rfl, HB.out.1⟩
set_option maxRecDepth 20000 in
set_option maxHeartbeats 4000000 in
theorem rdig_neg (u : Nat) (hu : u < 4294967296) (hu1 : 1 ≤ u) (w : World) : Calls Tryd.prog 37 #[.int .i64 (-(u : Int))] w fun e w' => e = .returned (.string (str (45 :: Lib.decDigits u))) ∧ Below w.heap.size w w' := by
  go_enter Tryd.func37, Tryd.ntmps37
  go_wp2
  go_loopw [3, 4] (fun a3 a4 wr => ∃ (m : Nat) (s : Bs), a3 = .string (str s) ∧ a4 = .int .i64 (-(m : Int)) ∧ m ≤ u ∧ s.length ≤ 40 ∧ (m ≠ 0 ∧ Lib.decDigits m ++ s = Lib.decDigits u ∧ s.length + Lib.nDigits m ≤ 20 ∨ m = 0 ∧ s = Lib.decDigits u ∧ s ≠ []) ∧ Below w.heap.size w wr) (fun a3 a4 _ => (intOf a4).natAbs)
  case atStart => exact ⟨u, [], rfl, rfl, Nat.le_refl _, by simp, .inl ⟨by omega, by simp, by have := Lib.nDigits_le20 u (by omega); simp; omega⟩, Below.refl _ _⟩
  case round =>
    obtain ⟨m, s, rfl, rfl, hm, hsl, hcase, hbel⟩ := hrel
    rcases hcase with ⟨hc, heq, hlen⟩ | ⟨rfl, rfl, hne⟩
    · have hmI : (-(m : Int) != 0) = true := by simp; omega
      have hmI2 : ¬ -(m : Int) = 0 := by omega
      have hmI3 : ¬ (m : Int) = 0 := by omega
      obtain ⟨r, hr⟩ : ∃ r, r = m % 10 := ⟨_, rfl⟩
      obtain ⟨q, hq⟩ : ∃ q, q = m / 10 := ⟨_, rfl⟩
      have hr10 : r < 10 := by omega
      have hrI : (-(m : Int)).tmod 10 = -(r : Int) := by rw [Int.neg_tmod, Int.tmod_eq_emod_of_nonneg (by omega)]; omega
      have hqI : (-(m : Int)).tdiv 10 = -(q : Int) := by rw [Int.neg_tdiv, Int.tdiv_eq_ediv_of_nonneg (by omega)]; omega
      obtain ⟨c, hcd⟩ : ∃ c, c = UInt8.ofNat (48 + m % 10) := ⟨_, rfl⟩
      have hcn : 48 + (r : Int) = (c.toNat : Int) := by rw [hcd, dig_byte, ← hr]
      have q1 : IntKind.i64.wrap (48 + (r : Int)) = 48 + (r : Int) := IntWalk.i64_in _ (by omega)
      have q2 : IntKind.u8.wrap (48 + (r : Int)) = 48 + (r : Int) := IntWalk.u8_in _ (by omega)
      have q3 : IntKind.i64.wrap (-(q : Int)) = -(q : Int) := IntWalk.i64_in _ (by omega)
      have q4 : IntKind.i64.wrap (r : Int) = (r : Int) := IntWalk.i64_in _ (by omega)
      have q5 : IntKind.i64.wrap (-(r : Int)) = -(r : Int) := IntWalk.i64_in _ (by omega)
      have hcv := conv_one wr c (48 + (r : Int)) hcn
      have hst := str_cons c s
      have hs1 : (str [c]).size = 1 := rfl
      have hs2 : (str s).size = s.length := str_size s
      have hsz : ¬ 281474976710656 < 1 + s.length := by omega
      have hstep := dec_step m s
      rw [← hcd, ← hq] at hstep
      have hnew : q ≠ 0 ∧ Lib.decDigits q ++ c :: s = Lib.decDigits u ∧ (c :: s).length + Lib.nDigits q ≤ 20 ∨ q = 0 ∧ c :: s = Lib.decDigits u ∧ c :: s ≠ [] := by
        by_cases h10 : m < 10
        · exact .inr ⟨by omega, by rw [← hstep.1 h10, heq], by simp⟩
        · refine .inl ⟨by omega, by rw [hstep.2 h10, heq], ?_⟩
          rw [Lib.nDigits_big h10, ← hq] at hlen
          simp only [List.length_cons]
          omega
      have hl2 : (c :: s).length ≤ 40 := by have := Lib.nDigits_pos m; simp only [List.length_cons]; omega
      have HF : Hid (Below w.heap.size w (wr.alloc (.cells #[.int .u8 (48 + (r : Int))] 5))) := Lib.hid (hbel.alloc hbel.size _)
      have HN := Lib.hid hnew
      have HC : Hid (48 + (r : Int) = (c.toNat : Int) ∧ Below w.heap.size w wr) := Lib.hid ⟨hcn, hbel⟩
      have hqm : q ≤ u ∧ q < m := by omega
      clear hbel heq hlen hc hnew hstep hcd hcn hr hq
      by_cases hz : r = 0
      · have hcv0 := conv_one wr c 48 (by have := HC.out.1; omega)
        have HF0 : Hid (Below w.heap.size w (wr.alloc (.cells #[.int .u8 48] 5))) := Lib.hid (HC.out.2.alloc HC.out.2.size _)
        have hrI0 : (-(m : Int)).tmod 10 = 0 := by rw [hrI, hz]; rfl
        clear hcv hrI q1 q2 q4 q5
        go_wp2
        go_roundw
        case rel => exact ⟨q, c :: s, by first | rfl | (rw [← hst]), by first | rfl | simp, hqm.1, hl2, HN.out, HF0.out⟩
        case measure => simp [intOf]; omega
      · have hr0 : -(r : Int) < 0 := by omega
        have hr2 : (0 : Int) < (r : Int) := by omega
        go_wp2
        go_roundw
        case rel => exact ⟨q, c :: s, by first | rfl | (rw [← hst]), by first | rfl | simp, hqm.1, hl2, HN.out, HF.out⟩
        case measure => simp [intOf]; omega
    · obtain ⟨D, hD⟩ : ∃ D, D = str (Lib.decDigits u) := ⟨_, rfl⟩
      have hDl : D.toList = Lib.decDigits u := by rw [hD, ByteArray.toList_eq, str_list]
      have hem : (Lib.decDigits u).isEmpty = false := by cases h : Lib.decDigits u with
        | nil => exact absurd h hne
        | cons _ _ => rfl
      have hst : ByteArray.mk #[45] ++ D = str (45 :: Lib.decDigits u) := by rw [hD, ← str_cons]; rfl
      have hs1 : (ByteArray.mk #[45]).size = 1 := rfl
      have hsz : ¬ 281474976710656 < 1 + D.size := by rw [hD, str_size]; omega
      have HB := Lib.hid hbel
      have hu0 : -(u : Int) < 0 := by omega
      have hu2 : (0 : Int) < (u : Int) := by omega
      rw [← hD]
      clear hbel hD hne
      go_wp2
      go_ret
      exact ⟨by first | rfl | (rw [← hst]), HB.out⟩
end Go.Proofs.YtmclcobklcjmnaaDoor

namespace Go.Proofs.YtmclcobklcjmnaaDoor
open Go.RowKit Go.Maps
set_option linter.unusedVariables false
set_option linter.unusedSimpArgs false

theorem form_has (f : Nat) : (97 ∈ formT f ↔ hasF f 1 = true) ∧ (98 ∈ formT f ↔ hasF f 2 = true) ∧ (117 ∈ formT f ↔ hasF f 4 = true) ∧ (115 ∈ formT f ↔ hasF f 8 = true) := by
  unfold formT
  refine ⟨?_, ?_, ?_, ?_⟩ <;> (cases hasF f 1 <;> cases hasF f 2 <;> cases hasF f 4 <;> cases hasF f 8 <;> simp)
theorem form_len (f : Nat) : (formT f).length ≤ 4 := by
  unfold formT
  cases hasF f 1 <;> cases hasF f 2 <;> cases hasF f 4 <;> cases hasF f 8 <;> simp
theorem rhas_form (f : Nat) (w : World) : Calls Tryd.prog 52 #[.string (str (formT f)), .int .u8 97] w (fun e w' => e = .returned (.bool (hasF f 1)) ∧ w' = w) ∧ Calls Tryd.prog 52 #[.string (str (formT f)), .int .u8 98] w (fun e w' => e = .returned (.bool (hasF f 2)) ∧ w' = w) ∧ Calls Tryd.prog 52 #[.string (str (formT f)), .int .u8 117] w (fun e w' => e = .returned (.bool (hasF f 4)) ∧ w' = w) ∧ Calls Tryd.prog 52 #[.string (str (formT f)), .int .u8 115] w (fun e w' => e = .returned (.bool (hasF f 8)) ∧ w' = w) := by
  have hl := form_len f
  have hs : (str (formT f)).size ≤ 140737488351232 := by rw [str_size]; omega
  obtain ⟨h1, h2, h3, h4⟩ := form_has f
  refine ⟨?_, ?_, ?_, ?_⟩
  · have := rhas_any (str (formT f)) hs 97 w
    rw [str_list, show decide (97 ∈ formT f) = hasF f 1 from Bool.eq_iff_iff.2 (by rw [decide_eq_true_iff]; exact h1)] at this
    exact this
  · have := rhas_any (str (formT f)) hs 98 w
    rw [str_list, show decide (98 ∈ formT f) = hasF f 2 from Bool.eq_iff_iff.2 (by rw [decide_eq_true_iff]; exact h2)] at this
    exact this
  · have := rhas_any (str (formT f)) hs 117 w
    rw [str_list, show decide (117 ∈ formT f) = hasF f 4 from Bool.eq_iff_iff.2 (by rw [decide_eq_true_iff]; exact h3)] at this
    exact this
  · have := rhas_any (str (formT f)) hs 115 w
    rw [str_list, show decide (115 ∈ formT f) = hasF f 8 from Bool.eq_iff_iff.2 (by rw [decide_eq_true_iff]; exact h4)] at this
    exact this
theorem nam_ne {op : Int} (h0 : 0 ≤ op) (h1 : op < 30) : nam op ≠ [] := by
  have h : ∀ k : Fin 30, nams.getD k.val [] ≠ [] := by decide +kernel
  exact h ⟨op.toNat, by omega⟩
set_option maxRecDepth 20000 in
set_option maxHeartbeats 8000000 in
theorem rcheck_any (i : In) (w : World) : Calls Tryd.prog 29 #[inV i] w fun e w' => e = .returned (.int .i64 (ckE i)) ∧ Below w.heap.size w w' := by
  obtain ⟨op, a, b, imm⟩ := i
  unfold inV
  dsimp only
  obtain ⟨X, hX⟩ : ∃ X, X = w.heap.size := ⟨_, rfl⟩
  obtain ⟨w0, hw0⟩ : ∃ w0, w0 = w.alloc (.cells #[.int .i64 op, .int .i64 a, .int .i64 b, .int .i64 imm] 30) := ⟨_, rfl⟩
  have hbel0 : Below X w w0 := by rw [hw0, hX]; exact (Below.refl _ w).alloc (Nat.le_refl _) _
  have hrow0 : w0.heap[X]? = some (.cells #[.int .i64 op, .int .i64 a, .int .i64 b, .int .i64 imm] 30) := by rw [hw0, hX]; exact World.alloc_heap_new w _
  have cell : ∀ W : World, W.heap[X]? = some (.cells #[.int .i64 op, .int .i64 a, .int .i64 b, .int .i64 imm] 30) → W.cell? ⟨X, 0, none⟩ = some (.int .i64 op) ∧ W.cell? ⟨X, 1, none⟩ = some (.int .i64 a) ∧ W.cell? ⟨X, 2, none⟩ = some (.int .i64 b) ∧ W.cell? ⟨X, 3, none⟩ = some (.int .i64 imm) := fun W h => ⟨cell_of_row W X 0 _ _ _ h, cell_of_row W X 1 _ _ _ h, cell_of_row W X 2 _ _ _ h, cell_of_row W X 3 _ _ _ h⟩
  obtain ⟨c00, c01, c02, c03⟩ := cell w0 hrow0
  obtain ⟨E, hE⟩ : ∃ E, E = ckE ⟨op, a, b, imm⟩ := ⟨_, rfl⟩
  have HE : Hid (E = ckE ⟨op, a, b, imm⟩) := Lib.hid hE
  rw [← hE]
  clear hE
  have HX := Lib.hid (And.intro hX (And.intro hbel0 hrow0))
  have es : str [] = ByteArray.mk #[] := rfl
  by_cases hop : op < 0 ∨ 30 ≤ op
  · have KN := Lib.hid (fun W => rname_out W op hop)
    have hfin : Hid (E = 90) := Lib.hid (by rw [HE.out]; unfold ckE okI isOp; rw [if_neg]; simp; omega)
    clear hbel0 hrow0 cell
    go_enter Tryd.func29, Tryd.ntmps29
    go_wp2_with (fail)
    rw [← hw0, ← hX]
    clear hw0 hX
    refine (KN.out _).mono ?_
    rw [es]
    rintro e w1 ⟨rfl, hb1⟩
    have H1 : Hid (Below X w w1) := Lib.hid (HX.out.2.1.trans (hb1.mono (Nat.le_of_lt (block_lt HX.out.2.2))))
    clear hb1
    go_wp2
    go_ret
    exact ⟨by rw [hfin.out]; rfl, by rw [← HX.out.1]; exact H1.out⟩
  · have h0 : 0 ≤ op := by omega
    have h1 : op < 30 := by omega
    have KN := Lib.hid (fun W => rname_in W op h0 h1)
    have KF := Lib.hid (fun W => rform_any W op h0 h1)
    have hne := nam_ne h0 h1
    obtain ⟨N, hN⟩ : ∃ N, N = str (nam op) := ⟨_, rfl⟩
    have hNl : N.toList = nam op := by rw [hN, ByteArray.toList_eq, str_list]
    have hem : (nam op).isEmpty = false := by cases h : nam op with
      | nil => exact absurd h hne
      | cons _ _ => rfl
    obtain ⟨f, hf⟩ : ∃ f, f = frm op := ⟨_, rfl⟩
    have KH := Lib.hid (fun W => rhas_form f W)
    have HO : Hid (0 ≤ op ∧ op < 30 ∧ f = frm op) := Lib.hid ⟨h0, h1, hf⟩
    rw [← hN] at KN
    rw [← hf] at KF
    obtain ⟨FS, hFS⟩ : ∃ FS, FS = str (formT f) := ⟨_, rfl⟩
    rw [← hFS] at KF KH
    clear hbel0 hrow0 hN hne hf hFS h0 h1 hop
    go_enter Tryd.func29, Tryd.ntmps29
    go_wp2_with (fail)
    rw [← hw0, ← hX]
    clear hw0 hX
    refine (KN.out _).mono ?_
    rintro e w1 ⟨rfl, hb1⟩
    have H1 : Hid (Below X w w1) := Lib.hid (HX.out.2.1.trans (hb1.mono (Nat.le_of_lt (block_lt HX.out.2.2))))
    have hr1 : w1.heap[X]? = some (.cells #[.int .i64 op, .int .i64 a, .int .i64 b, .int .i64 imm] 30) := (hb1.block X (block_lt HX.out.2.2)).trans HX.out.2.2
    obtain ⟨c10, c11, c12, c13⟩ := cell w1 hr1
    clear hb1 hr1 cell c00 c01 c02 c03
    go_wp2_with (fail)
    refine (KF.out _).mono ?_
    rintro e w2 ⟨rfl, rfl⟩
    by_cases u0 : a < 0
    · cases hu : hasF f 4 with
      | true =>
        rw [hu] at KH
        go_wp2_with (fail)
        refine (KH.out _).2.2.1.mono ?_
        rintro e wq ⟨rfl, rfl⟩
        go_wp2
        go_ret
        exact ⟨by rw [HE.out]; unfold ckE okI isOp fitsF mayN leastF mostF; dsimp only; rw [← HO.out.2.2]; have ho1 := HO.out.1; have ho2 := HO.out.2.1; clear HE HO; (cases h1q : hasF f 1 <;> cases h2q : hasF f 2 <;> simp_all <;> omega), by rw [← HX.out.1]; exact H1.out⟩
      | false =>
        rw [hu] at KH
        go_wp2_with (fail)
        refine (KH.out _).2.2.1.mono ?_
        rintro e wq ⟨rfl, rfl⟩
        cases hv : hasF f 8 with
        | true =>
          rw [hv] at KH
          go_wp2_with (fail)
          refine (KH.out _).2.2.2.mono ?_
          rintro e wq ⟨rfl, rfl⟩
          go_wp2
          go_ret
          exact ⟨by rw [HE.out]; unfold ckE okI isOp fitsF mayN leastF mostF; dsimp only; rw [← HO.out.2.2]; have ho1 := HO.out.1; have ho2 := HO.out.2.1; clear HE HO; (cases h1q : hasF f 1 <;> cases h2q : hasF f 2 <;> simp_all <;> omega), by rw [← HX.out.1]; exact H1.out⟩
        | false =>
          rw [hv] at KH
          go_wp2_with (fail)
          refine (KH.out _).2.2.2.mono ?_
          rintro e wq ⟨rfl, rfl⟩
          go_wp2
          go_ret
          exact ⟨by rw [HE.out]; unfold ckE okI isOp fitsF mayN leastF mostF; dsimp only; rw [← HO.out.2.2]; have ho1 := HO.out.1; have ho2 := HO.out.2.1; clear HE HO; (cases h1q : hasF f 1 <;> cases h2q : hasF f 2 <;> simp_all <;> omega), by rw [← HX.out.1]; exact H1.out⟩
    · by_cases u1 : 15 < a
      · cases hu : hasF f 4 with
        | true =>
          rw [hu] at KH
          go_wp2_with (fail)
          refine (KH.out _).2.2.1.mono ?_
          rintro e wq ⟨rfl, rfl⟩
          go_wp2
          go_ret
          exact ⟨by rw [HE.out]; unfold ckE okI isOp fitsF mayN leastF mostF; dsimp only; rw [← HO.out.2.2]; have ho1 := HO.out.1; have ho2 := HO.out.2.1; clear HE HO; (cases h1q : hasF f 1 <;> cases h2q : hasF f 2 <;> simp_all <;> omega), by rw [← HX.out.1]; exact H1.out⟩
        | false =>
          rw [hu] at KH
          go_wp2_with (fail)
          refine (KH.out _).2.2.1.mono ?_
          rintro e wq ⟨rfl, rfl⟩
          cases hv : hasF f 8 with
          | true =>
            rw [hv] at KH
            go_wp2_with (fail)
            refine (KH.out _).2.2.2.mono ?_
            rintro e wq ⟨rfl, rfl⟩
            go_wp2
            go_ret
            exact ⟨by rw [HE.out]; unfold ckE okI isOp fitsF mayN leastF mostF; dsimp only; rw [← HO.out.2.2]; have ho1 := HO.out.1; have ho2 := HO.out.2.1; clear HE HO; (cases h1q : hasF f 1 <;> cases h2q : hasF f 2 <;> simp_all <;> omega), by rw [← HX.out.1]; exact H1.out⟩
          | false =>
            rw [hv] at KH
            go_wp2_with (fail)
            refine (KH.out _).2.2.2.mono ?_
            rintro e wq ⟨rfl, rfl⟩
            go_wp2
            go_ret
            exact ⟨by rw [HE.out]; unfold ckE okI isOp fitsF mayN leastF mostF; dsimp only; rw [← HO.out.2.2]; have ho1 := HO.out.1; have ho2 := HO.out.2.1; clear HE HO; (cases h1q : hasF f 1 <;> cases h2q : hasF f 2 <;> simp_all <;> omega), by rw [← HX.out.1]; exact H1.out⟩
      · cases uh : hasF f 1 with
        | true =>
          rw [uh] at KH
          go_wp2_with (fail)
          refine (KH.out _).1.mono ?_
          rintro e wq ⟨rfl, rfl⟩
          by_cases v0 : b < 0
          · cases hu : hasF f 4 with
            | true =>
              rw [hu] at KH
              go_wp2_with (fail)
              refine (KH.out _).2.2.1.mono ?_
              rintro e wq ⟨rfl, rfl⟩
              go_wp2
              go_ret
              exact ⟨by rw [HE.out]; unfold ckE okI isOp fitsF mayN leastF mostF; dsimp only; rw [← HO.out.2.2]; have ho1 := HO.out.1; have ho2 := HO.out.2.1; clear HE HO; (cases h1q : hasF f 1 <;> cases h2q : hasF f 2 <;> simp_all <;> omega), by rw [← HX.out.1]; exact H1.out⟩
            | false =>
              rw [hu] at KH
              go_wp2_with (fail)
              refine (KH.out _).2.2.1.mono ?_
              rintro e wq ⟨rfl, rfl⟩
              cases hv : hasF f 8 with
              | true =>
                rw [hv] at KH
                go_wp2_with (fail)
                refine (KH.out _).2.2.2.mono ?_
                rintro e wq ⟨rfl, rfl⟩
                go_wp2
                go_ret
                exact ⟨by rw [HE.out]; unfold ckE okI isOp fitsF mayN leastF mostF; dsimp only; rw [← HO.out.2.2]; have ho1 := HO.out.1; have ho2 := HO.out.2.1; clear HE HO; (cases h1q : hasF f 1 <;> cases h2q : hasF f 2 <;> simp_all <;> omega), by rw [← HX.out.1]; exact H1.out⟩
              | false =>
                rw [hv] at KH
                go_wp2_with (fail)
                refine (KH.out _).2.2.2.mono ?_
                rintro e wq ⟨rfl, rfl⟩
                go_wp2
                go_ret
                exact ⟨by rw [HE.out]; unfold ckE okI isOp fitsF mayN leastF mostF; dsimp only; rw [← HO.out.2.2]; have ho1 := HO.out.1; have ho2 := HO.out.2.1; clear HE HO; (cases h1q : hasF f 1 <;> cases h2q : hasF f 2 <;> simp_all <;> omega), by rw [← HX.out.1]; exact H1.out⟩
          · by_cases v1 : 15 < b
            · cases hu : hasF f 4 with
              | true =>
                rw [hu] at KH
                go_wp2_with (fail)
                refine (KH.out _).2.2.1.mono ?_
                rintro e wq ⟨rfl, rfl⟩
                go_wp2
                go_ret
                exact ⟨by rw [HE.out]; unfold ckE okI isOp fitsF mayN leastF mostF; dsimp only; rw [← HO.out.2.2]; have ho1 := HO.out.1; have ho2 := HO.out.2.1; clear HE HO; (cases h1q : hasF f 1 <;> cases h2q : hasF f 2 <;> simp_all <;> omega), by rw [← HX.out.1]; exact H1.out⟩
              | false =>
                rw [hu] at KH
                go_wp2_with (fail)
                refine (KH.out _).2.2.1.mono ?_
                rintro e wq ⟨rfl, rfl⟩
                cases hv : hasF f 8 with
                | true =>
                  rw [hv] at KH
                  go_wp2_with (fail)
                  refine (KH.out _).2.2.2.mono ?_
                  rintro e wq ⟨rfl, rfl⟩
                  go_wp2
                  go_ret
                  exact ⟨by rw [HE.out]; unfold ckE okI isOp fitsF mayN leastF mostF; dsimp only; rw [← HO.out.2.2]; have ho1 := HO.out.1; have ho2 := HO.out.2.1; clear HE HO; (cases h1q : hasF f 1 <;> cases h2q : hasF f 2 <;> simp_all <;> omega), by rw [← HX.out.1]; exact H1.out⟩
                | false =>
                  rw [hv] at KH
                  go_wp2_with (fail)
                  refine (KH.out _).2.2.2.mono ?_
                  rintro e wq ⟨rfl, rfl⟩
                  go_wp2
                  go_ret
                  exact ⟨by rw [HE.out]; unfold ckE okI isOp fitsF mayN leastF mostF; dsimp only; rw [← HO.out.2.2]; have ho1 := HO.out.1; have ho2 := HO.out.2.1; clear HE HO; (cases h1q : hasF f 1 <;> cases h2q : hasF f 2 <;> simp_all <;> omega), by rw [← HX.out.1]; exact H1.out⟩
            · cases vh : hasF f 2 with
              | true =>
                rw [vh] at KH
                go_wp2_with (fail)
                refine (KH.out _).2.1.mono ?_
                rintro e wq ⟨rfl, rfl⟩
                cases hu : hasF f 4 with
                | true =>
                  rw [hu] at KH
                  go_wp2_with (fail)
                  refine (KH.out _).2.2.1.mono ?_
                  rintro e wq ⟨rfl, rfl⟩
                  by_cases i0 : imm < 0
                  · go_wp2
                    go_ret
                    exact ⟨by rw [HE.out]; unfold ckE okI isOp fitsF mayN leastF mostF; dsimp only; rw [← HO.out.2.2]; have ho1 := HO.out.1; have ho2 := HO.out.2.1; clear HE HO; (cases h1q : hasF f 1 <;> cases h2q : hasF f 2 <;> simp_all <;> omega), by rw [← HX.out.1]; exact H1.out⟩
                  · by_cases i1 : 65535 < imm
                    · have i2 : decide (imm ≤ 65535) = false := decide_eq_false (by omega)
                      go_wp2
                      go_ret
                      exact ⟨by rw [HE.out]; unfold ckE okI isOp fitsF mayN leastF mostF; dsimp only; rw [← HO.out.2.2]; have ho1 := HO.out.1; have ho2 := HO.out.2.1; clear HE HO; (cases h1q : hasF f 1 <;> cases h2q : hasF f 2 <;> simp_all <;> omega), by rw [← HX.out.1]; exact H1.out⟩
                    · go_wp2
                      go_ret
                      exact ⟨by rw [HE.out]; unfold ckE okI isOp fitsF mayN leastF mostF; dsimp only; rw [← HO.out.2.2]; have ho1 := HO.out.1; have ho2 := HO.out.2.1; clear HE HO; (cases h1q : hasF f 1 <;> cases h2q : hasF f 2 <;> simp_all <;> omega), by rw [← HX.out.1]; exact H1.out⟩
                | false =>
                  rw [hu] at KH
                  go_wp2_with (fail)
                  refine (KH.out _).2.2.1.mono ?_
                  rintro e wq ⟨rfl, rfl⟩
                  cases hv : hasF f 8 with
                  | true =>
                    rw [hv] at KH
                    go_wp2_with (fail)
                    refine (KH.out _).2.2.2.mono ?_
                    rintro e wq ⟨rfl, rfl⟩
                    by_cases i0 : imm < -32768
                    · go_wp2
                      go_ret
                      exact ⟨by rw [HE.out]; unfold ckE okI isOp fitsF mayN leastF mostF; dsimp only; rw [← HO.out.2.2]; have ho1 := HO.out.1; have ho2 := HO.out.2.1; clear HE HO; (cases h1q : hasF f 1 <;> cases h2q : hasF f 2 <;> simp_all <;> omega), by rw [← HX.out.1]; exact H1.out⟩
                    · by_cases i1 : 32767 < imm
                      · have i2 : decide (imm ≤ 32767) = false := decide_eq_false (by omega)
                        go_wp2
                        go_ret
                        exact ⟨by rw [HE.out]; unfold ckE okI isOp fitsF mayN leastF mostF; dsimp only; rw [← HO.out.2.2]; have ho1 := HO.out.1; have ho2 := HO.out.2.1; clear HE HO; (cases h1q : hasF f 1 <;> cases h2q : hasF f 2 <;> simp_all <;> omega), by rw [← HX.out.1]; exact H1.out⟩
                      · go_wp2
                        go_ret
                        exact ⟨by rw [HE.out]; unfold ckE okI isOp fitsF mayN leastF mostF; dsimp only; rw [← HO.out.2.2]; have ho1 := HO.out.1; have ho2 := HO.out.2.1; clear HE HO; (cases h1q : hasF f 1 <;> cases h2q : hasF f 2 <;> simp_all <;> omega), by rw [← HX.out.1]; exact H1.out⟩
                  | false =>
                    rw [hv] at KH
                    go_wp2_with (fail)
                    refine (KH.out _).2.2.2.mono ?_
                    rintro e wq ⟨rfl, rfl⟩
                    by_cases i0 : imm = 0
                    · subst i0
                      go_wp2
                      go_ret
                      exact ⟨by rw [HE.out]; unfold ckE okI isOp fitsF mayN leastF mostF; dsimp only; rw [← HO.out.2.2]; have ho1 := HO.out.1; have ho2 := HO.out.2.1; clear HE HO; (cases h1q : hasF f 1 <;> cases h2q : hasF f 2 <;> simp_all <;> omega), by rw [← HX.out.1]; exact H1.out⟩
                    · have i1 : (imm == 0) = false := by simpa using i0
                      go_wp2
                      go_ret
                      exact ⟨by rw [HE.out]; unfold ckE okI isOp fitsF mayN leastF mostF; dsimp only; rw [← HO.out.2.2]; have ho1 := HO.out.1; have ho2 := HO.out.2.1; clear HE HO; (cases h1q : hasF f 1 <;> cases h2q : hasF f 2 <;> simp_all <;> omega), by rw [← HX.out.1]; exact H1.out⟩
              | false =>
                rw [vh] at KH
                go_wp2_with (fail)
                refine (KH.out _).2.1.mono ?_
                rintro e wq ⟨rfl, rfl⟩
                by_cases v2 : b = 0
                · subst v2
                  cases hu : hasF f 4 with
                  | true =>
                    rw [hu] at KH
                    go_wp2_with (fail)
                    refine (KH.out _).2.2.1.mono ?_
                    rintro e wq ⟨rfl, rfl⟩
                    by_cases i0 : imm < 0
                    · go_wp2
                      go_ret
                      exact ⟨by rw [HE.out]; unfold ckE okI isOp fitsF mayN leastF mostF; dsimp only; rw [← HO.out.2.2]; have ho1 := HO.out.1; have ho2 := HO.out.2.1; clear HE HO; (cases h1q : hasF f 1 <;> cases h2q : hasF f 2 <;> simp_all <;> omega), by rw [← HX.out.1]; exact H1.out⟩
                    · by_cases i1 : 65535 < imm
                      · have i2 : decide (imm ≤ 65535) = false := decide_eq_false (by omega)
                        go_wp2
                        go_ret
                        exact ⟨by rw [HE.out]; unfold ckE okI isOp fitsF mayN leastF mostF; dsimp only; rw [← HO.out.2.2]; have ho1 := HO.out.1; have ho2 := HO.out.2.1; clear HE HO; (cases h1q : hasF f 1 <;> cases h2q : hasF f 2 <;> simp_all <;> omega), by rw [← HX.out.1]; exact H1.out⟩
                      · go_wp2
                        go_ret
                        exact ⟨by rw [HE.out]; unfold ckE okI isOp fitsF mayN leastF mostF; dsimp only; rw [← HO.out.2.2]; have ho1 := HO.out.1; have ho2 := HO.out.2.1; clear HE HO; (cases h1q : hasF f 1 <;> cases h2q : hasF f 2 <;> simp_all <;> omega), by rw [← HX.out.1]; exact H1.out⟩
                  | false =>
                    rw [hu] at KH
                    go_wp2_with (fail)
                    refine (KH.out _).2.2.1.mono ?_
                    rintro e wq ⟨rfl, rfl⟩
                    cases hv : hasF f 8 with
                    | true =>
                      rw [hv] at KH
                      go_wp2_with (fail)
                      refine (KH.out _).2.2.2.mono ?_
                      rintro e wq ⟨rfl, rfl⟩
                      by_cases i0 : imm < -32768
                      · go_wp2
                        go_ret
                        exact ⟨by rw [HE.out]; unfold ckE okI isOp fitsF mayN leastF mostF; dsimp only; rw [← HO.out.2.2]; have ho1 := HO.out.1; have ho2 := HO.out.2.1; clear HE HO; (cases h1q : hasF f 1 <;> cases h2q : hasF f 2 <;> simp_all <;> omega), by rw [← HX.out.1]; exact H1.out⟩
                      · by_cases i1 : 32767 < imm
                        · have i2 : decide (imm ≤ 32767) = false := decide_eq_false (by omega)
                          go_wp2
                          go_ret
                          exact ⟨by rw [HE.out]; unfold ckE okI isOp fitsF mayN leastF mostF; dsimp only; rw [← HO.out.2.2]; have ho1 := HO.out.1; have ho2 := HO.out.2.1; clear HE HO; (cases h1q : hasF f 1 <;> cases h2q : hasF f 2 <;> simp_all <;> omega), by rw [← HX.out.1]; exact H1.out⟩
                        · go_wp2
                          go_ret
                          exact ⟨by rw [HE.out]; unfold ckE okI isOp fitsF mayN leastF mostF; dsimp only; rw [← HO.out.2.2]; have ho1 := HO.out.1; have ho2 := HO.out.2.1; clear HE HO; (cases h1q : hasF f 1 <;> cases h2q : hasF f 2 <;> simp_all <;> omega), by rw [← HX.out.1]; exact H1.out⟩
                    | false =>
                      rw [hv] at KH
                      go_wp2_with (fail)
                      refine (KH.out _).2.2.2.mono ?_
                      rintro e wq ⟨rfl, rfl⟩
                      by_cases i0 : imm = 0
                      · subst i0
                        go_wp2
                        go_ret
                        exact ⟨by rw [HE.out]; unfold ckE okI isOp fitsF mayN leastF mostF; dsimp only; rw [← HO.out.2.2]; have ho1 := HO.out.1; have ho2 := HO.out.2.1; clear HE HO; (cases h1q : hasF f 1 <;> cases h2q : hasF f 2 <;> simp_all <;> omega), by rw [← HX.out.1]; exact H1.out⟩
                      · have i1 : (imm == 0) = false := by simpa using i0
                        go_wp2
                        go_ret
                        exact ⟨by rw [HE.out]; unfold ckE okI isOp fitsF mayN leastF mostF; dsimp only; rw [← HO.out.2.2]; have ho1 := HO.out.1; have ho2 := HO.out.2.1; clear HE HO; (cases h1q : hasF f 1 <;> cases h2q : hasF f 2 <;> simp_all <;> omega), by rw [← HX.out.1]; exact H1.out⟩
                · have v3 : (b == 0) = false := by simpa using v2
                  cases hu : hasF f 4 with
                  | true =>
                    rw [hu] at KH
                    go_wp2_with (fail)
                    refine (KH.out _).2.2.1.mono ?_
                    rintro e wq ⟨rfl, rfl⟩
                    go_wp2
                    go_ret
                    exact ⟨by rw [HE.out]; unfold ckE okI isOp fitsF mayN leastF mostF; dsimp only; rw [← HO.out.2.2]; have ho1 := HO.out.1; have ho2 := HO.out.2.1; clear HE HO; (cases h1q : hasF f 1 <;> cases h2q : hasF f 2 <;> simp_all <;> omega), by rw [← HX.out.1]; exact H1.out⟩
                  | false =>
                    rw [hu] at KH
                    go_wp2_with (fail)
                    refine (KH.out _).2.2.1.mono ?_
                    rintro e wq ⟨rfl, rfl⟩
                    cases hv : hasF f 8 with
                    | true =>
                      rw [hv] at KH
                      go_wp2_with (fail)
                      refine (KH.out _).2.2.2.mono ?_
                      rintro e wq ⟨rfl, rfl⟩
                      go_wp2
                      go_ret
                      exact ⟨by rw [HE.out]; unfold ckE okI isOp fitsF mayN leastF mostF; dsimp only; rw [← HO.out.2.2]; have ho1 := HO.out.1; have ho2 := HO.out.2.1; clear HE HO; (cases h1q : hasF f 1 <;> cases h2q : hasF f 2 <;> simp_all <;> omega), by rw [← HX.out.1]; exact H1.out⟩
                    | false =>
                      rw [hv] at KH
                      go_wp2_with (fail)
                      refine (KH.out _).2.2.2.mono ?_
                      rintro e wq ⟨rfl, rfl⟩
                      go_wp2
                      go_ret
                      exact ⟨by rw [HE.out]; unfold ckE okI isOp fitsF mayN leastF mostF; dsimp only; rw [← HO.out.2.2]; have ho1 := HO.out.1; have ho2 := HO.out.2.1; clear HE HO; (cases h1q : hasF f 1 <;> cases h2q : hasF f 2 <;> simp_all <;> omega), by rw [← HX.out.1]; exact H1.out⟩
        | false =>
          rw [uh] at KH
          go_wp2_with (fail)
          refine (KH.out _).1.mono ?_
          rintro e wq ⟨rfl, rfl⟩
          by_cases u2 : a = 0
          · subst u2
            by_cases v0 : b < 0
            · cases hu : hasF f 4 with
              | true =>
                rw [hu] at KH
                go_wp2_with (fail)
                refine (KH.out _).2.2.1.mono ?_
                rintro e wq ⟨rfl, rfl⟩
                go_wp2
                go_ret
                exact ⟨by rw [HE.out]; unfold ckE okI isOp fitsF mayN leastF mostF; dsimp only; rw [← HO.out.2.2]; have ho1 := HO.out.1; have ho2 := HO.out.2.1; clear HE HO; (cases h1q : hasF f 1 <;> cases h2q : hasF f 2 <;> simp_all <;> omega), by rw [← HX.out.1]; exact H1.out⟩
              | false =>
                rw [hu] at KH
                go_wp2_with (fail)
                refine (KH.out _).2.2.1.mono ?_
                rintro e wq ⟨rfl, rfl⟩
                cases hv : hasF f 8 with
                | true =>
                  rw [hv] at KH
                  go_wp2_with (fail)
                  refine (KH.out _).2.2.2.mono ?_
                  rintro e wq ⟨rfl, rfl⟩
                  go_wp2
                  go_ret
                  exact ⟨by rw [HE.out]; unfold ckE okI isOp fitsF mayN leastF mostF; dsimp only; rw [← HO.out.2.2]; have ho1 := HO.out.1; have ho2 := HO.out.2.1; clear HE HO; (cases h1q : hasF f 1 <;> cases h2q : hasF f 2 <;> simp_all <;> omega), by rw [← HX.out.1]; exact H1.out⟩
                | false =>
                  rw [hv] at KH
                  go_wp2_with (fail)
                  refine (KH.out _).2.2.2.mono ?_
                  rintro e wq ⟨rfl, rfl⟩
                  go_wp2
                  go_ret
                  exact ⟨by rw [HE.out]; unfold ckE okI isOp fitsF mayN leastF mostF; dsimp only; rw [← HO.out.2.2]; have ho1 := HO.out.1; have ho2 := HO.out.2.1; clear HE HO; (cases h1q : hasF f 1 <;> cases h2q : hasF f 2 <;> simp_all <;> omega), by rw [← HX.out.1]; exact H1.out⟩
            · by_cases v1 : 15 < b
              · cases hu : hasF f 4 with
                | true =>
                  rw [hu] at KH
                  go_wp2_with (fail)
                  refine (KH.out _).2.2.1.mono ?_
                  rintro e wq ⟨rfl, rfl⟩
                  go_wp2
                  go_ret
                  exact ⟨by rw [HE.out]; unfold ckE okI isOp fitsF mayN leastF mostF; dsimp only; rw [← HO.out.2.2]; have ho1 := HO.out.1; have ho2 := HO.out.2.1; clear HE HO; (cases h1q : hasF f 1 <;> cases h2q : hasF f 2 <;> simp_all <;> omega), by rw [← HX.out.1]; exact H1.out⟩
                | false =>
                  rw [hu] at KH
                  go_wp2_with (fail)
                  refine (KH.out _).2.2.1.mono ?_
                  rintro e wq ⟨rfl, rfl⟩
                  cases hv : hasF f 8 with
                  | true =>
                    rw [hv] at KH
                    go_wp2_with (fail)
                    refine (KH.out _).2.2.2.mono ?_
                    rintro e wq ⟨rfl, rfl⟩
                    go_wp2
                    go_ret
                    exact ⟨by rw [HE.out]; unfold ckE okI isOp fitsF mayN leastF mostF; dsimp only; rw [← HO.out.2.2]; have ho1 := HO.out.1; have ho2 := HO.out.2.1; clear HE HO; (cases h1q : hasF f 1 <;> cases h2q : hasF f 2 <;> simp_all <;> omega), by rw [← HX.out.1]; exact H1.out⟩
                  | false =>
                    rw [hv] at KH
                    go_wp2_with (fail)
                    refine (KH.out _).2.2.2.mono ?_
                    rintro e wq ⟨rfl, rfl⟩
                    go_wp2
                    go_ret
                    exact ⟨by rw [HE.out]; unfold ckE okI isOp fitsF mayN leastF mostF; dsimp only; rw [← HO.out.2.2]; have ho1 := HO.out.1; have ho2 := HO.out.2.1; clear HE HO; (cases h1q : hasF f 1 <;> cases h2q : hasF f 2 <;> simp_all <;> omega), by rw [← HX.out.1]; exact H1.out⟩
              · cases vh : hasF f 2 with
                | true =>
                  rw [vh] at KH
                  go_wp2_with (fail)
                  refine (KH.out _).2.1.mono ?_
                  rintro e wq ⟨rfl, rfl⟩
                  cases hu : hasF f 4 with
                  | true =>
                    rw [hu] at KH
                    go_wp2_with (fail)
                    refine (KH.out _).2.2.1.mono ?_
                    rintro e wq ⟨rfl, rfl⟩
                    by_cases i0 : imm < 0
                    · go_wp2
                      go_ret
                      exact ⟨by rw [HE.out]; unfold ckE okI isOp fitsF mayN leastF mostF; dsimp only; rw [← HO.out.2.2]; have ho1 := HO.out.1; have ho2 := HO.out.2.1; clear HE HO; (cases h1q : hasF f 1 <;> cases h2q : hasF f 2 <;> simp_all <;> omega), by rw [← HX.out.1]; exact H1.out⟩
                    · by_cases i1 : 65535 < imm
                      · have i2 : decide (imm ≤ 65535) = false := decide_eq_false (by omega)
                        go_wp2
                        go_ret
                        exact ⟨by rw [HE.out]; unfold ckE okI isOp fitsF mayN leastF mostF; dsimp only; rw [← HO.out.2.2]; have ho1 := HO.out.1; have ho2 := HO.out.2.1; clear HE HO; (cases h1q : hasF f 1 <;> cases h2q : hasF f 2 <;> simp_all <;> omega), by rw [← HX.out.1]; exact H1.out⟩
                      · go_wp2
                        go_ret
                        exact ⟨by rw [HE.out]; unfold ckE okI isOp fitsF mayN leastF mostF; dsimp only; rw [← HO.out.2.2]; have ho1 := HO.out.1; have ho2 := HO.out.2.1; clear HE HO; (cases h1q : hasF f 1 <;> cases h2q : hasF f 2 <;> simp_all <;> omega), by rw [← HX.out.1]; exact H1.out⟩
                  | false =>
                    rw [hu] at KH
                    go_wp2_with (fail)
                    refine (KH.out _).2.2.1.mono ?_
                    rintro e wq ⟨rfl, rfl⟩
                    cases hv : hasF f 8 with
                    | true =>
                      rw [hv] at KH
                      go_wp2_with (fail)
                      refine (KH.out _).2.2.2.mono ?_
                      rintro e wq ⟨rfl, rfl⟩
                      by_cases i0 : imm < -32768
                      · go_wp2
                        go_ret
                        exact ⟨by rw [HE.out]; unfold ckE okI isOp fitsF mayN leastF mostF; dsimp only; rw [← HO.out.2.2]; have ho1 := HO.out.1; have ho2 := HO.out.2.1; clear HE HO; (cases h1q : hasF f 1 <;> cases h2q : hasF f 2 <;> simp_all <;> omega), by rw [← HX.out.1]; exact H1.out⟩
                      · by_cases i1 : 32767 < imm
                        · have i2 : decide (imm ≤ 32767) = false := decide_eq_false (by omega)
                          go_wp2
                          go_ret
                          exact ⟨by rw [HE.out]; unfold ckE okI isOp fitsF mayN leastF mostF; dsimp only; rw [← HO.out.2.2]; have ho1 := HO.out.1; have ho2 := HO.out.2.1; clear HE HO; (cases h1q : hasF f 1 <;> cases h2q : hasF f 2 <;> simp_all <;> omega), by rw [← HX.out.1]; exact H1.out⟩
                        · go_wp2
                          go_ret
                          exact ⟨by rw [HE.out]; unfold ckE okI isOp fitsF mayN leastF mostF; dsimp only; rw [← HO.out.2.2]; have ho1 := HO.out.1; have ho2 := HO.out.2.1; clear HE HO; (cases h1q : hasF f 1 <;> cases h2q : hasF f 2 <;> simp_all <;> omega), by rw [← HX.out.1]; exact H1.out⟩
                    | false =>
                      rw [hv] at KH
                      go_wp2_with (fail)
                      refine (KH.out _).2.2.2.mono ?_
                      rintro e wq ⟨rfl, rfl⟩
                      by_cases i0 : imm = 0
                      · subst i0
                        go_wp2
                        go_ret
                        exact ⟨by rw [HE.out]; unfold ckE okI isOp fitsF mayN leastF mostF; dsimp only; rw [← HO.out.2.2]; have ho1 := HO.out.1; have ho2 := HO.out.2.1; clear HE HO; (cases h1q : hasF f 1 <;> cases h2q : hasF f 2 <;> simp_all <;> omega), by rw [← HX.out.1]; exact H1.out⟩
                      · have i1 : (imm == 0) = false := by simpa using i0
                        go_wp2
                        go_ret
                        exact ⟨by rw [HE.out]; unfold ckE okI isOp fitsF mayN leastF mostF; dsimp only; rw [← HO.out.2.2]; have ho1 := HO.out.1; have ho2 := HO.out.2.1; clear HE HO; (cases h1q : hasF f 1 <;> cases h2q : hasF f 2 <;> simp_all <;> omega), by rw [← HX.out.1]; exact H1.out⟩
                | false =>
                  rw [vh] at KH
                  go_wp2_with (fail)
                  refine (KH.out _).2.1.mono ?_
                  rintro e wq ⟨rfl, rfl⟩
                  by_cases v2 : b = 0
                  · subst v2
                    cases hu : hasF f 4 with
                    | true =>
                      rw [hu] at KH
                      go_wp2_with (fail)
                      refine (KH.out _).2.2.1.mono ?_
                      rintro e wq ⟨rfl, rfl⟩
                      by_cases i0 : imm < 0
                      · go_wp2
                        go_ret
                        exact ⟨by rw [HE.out]; unfold ckE okI isOp fitsF mayN leastF mostF; dsimp only; rw [← HO.out.2.2]; have ho1 := HO.out.1; have ho2 := HO.out.2.1; clear HE HO; (cases h1q : hasF f 1 <;> cases h2q : hasF f 2 <;> simp_all <;> omega), by rw [← HX.out.1]; exact H1.out⟩
                      · by_cases i1 : 65535 < imm
                        · have i2 : decide (imm ≤ 65535) = false := decide_eq_false (by omega)
                          go_wp2
                          go_ret
                          exact ⟨by rw [HE.out]; unfold ckE okI isOp fitsF mayN leastF mostF; dsimp only; rw [← HO.out.2.2]; have ho1 := HO.out.1; have ho2 := HO.out.2.1; clear HE HO; (cases h1q : hasF f 1 <;> cases h2q : hasF f 2 <;> simp_all <;> omega), by rw [← HX.out.1]; exact H1.out⟩
                        · go_wp2
                          go_ret
                          exact ⟨by rw [HE.out]; unfold ckE okI isOp fitsF mayN leastF mostF; dsimp only; rw [← HO.out.2.2]; have ho1 := HO.out.1; have ho2 := HO.out.2.1; clear HE HO; (cases h1q : hasF f 1 <;> cases h2q : hasF f 2 <;> simp_all <;> omega), by rw [← HX.out.1]; exact H1.out⟩
                    | false =>
                      rw [hu] at KH
                      go_wp2_with (fail)
                      refine (KH.out _).2.2.1.mono ?_
                      rintro e wq ⟨rfl, rfl⟩
                      cases hv : hasF f 8 with
                      | true =>
                        rw [hv] at KH
                        go_wp2_with (fail)
                        refine (KH.out _).2.2.2.mono ?_
                        rintro e wq ⟨rfl, rfl⟩
                        by_cases i0 : imm < -32768
                        · go_wp2
                          go_ret
                          exact ⟨by rw [HE.out]; unfold ckE okI isOp fitsF mayN leastF mostF; dsimp only; rw [← HO.out.2.2]; have ho1 := HO.out.1; have ho2 := HO.out.2.1; clear HE HO; (cases h1q : hasF f 1 <;> cases h2q : hasF f 2 <;> simp_all <;> omega), by rw [← HX.out.1]; exact H1.out⟩
                        · by_cases i1 : 32767 < imm
                          · have i2 : decide (imm ≤ 32767) = false := decide_eq_false (by omega)
                            go_wp2
                            go_ret
                            exact ⟨by rw [HE.out]; unfold ckE okI isOp fitsF mayN leastF mostF; dsimp only; rw [← HO.out.2.2]; have ho1 := HO.out.1; have ho2 := HO.out.2.1; clear HE HO; (cases h1q : hasF f 1 <;> cases h2q : hasF f 2 <;> simp_all <;> omega), by rw [← HX.out.1]; exact H1.out⟩
                          · go_wp2
                            go_ret
                            exact ⟨by rw [HE.out]; unfold ckE okI isOp fitsF mayN leastF mostF; dsimp only; rw [← HO.out.2.2]; have ho1 := HO.out.1; have ho2 := HO.out.2.1; clear HE HO; (cases h1q : hasF f 1 <;> cases h2q : hasF f 2 <;> simp_all <;> omega), by rw [← HX.out.1]; exact H1.out⟩
                      | false =>
                        rw [hv] at KH
                        go_wp2_with (fail)
                        refine (KH.out _).2.2.2.mono ?_
                        rintro e wq ⟨rfl, rfl⟩
                        by_cases i0 : imm = 0
                        · subst i0
                          go_wp2
                          go_ret
                          exact ⟨by rw [HE.out]; unfold ckE okI isOp fitsF mayN leastF mostF; dsimp only; rw [← HO.out.2.2]; have ho1 := HO.out.1; have ho2 := HO.out.2.1; clear HE HO; (cases h1q : hasF f 1 <;> cases h2q : hasF f 2 <;> simp_all <;> omega), by rw [← HX.out.1]; exact H1.out⟩
                        · have i1 : (imm == 0) = false := by simpa using i0
                          go_wp2
                          go_ret
                          exact ⟨by rw [HE.out]; unfold ckE okI isOp fitsF mayN leastF mostF; dsimp only; rw [← HO.out.2.2]; have ho1 := HO.out.1; have ho2 := HO.out.2.1; clear HE HO; (cases h1q : hasF f 1 <;> cases h2q : hasF f 2 <;> simp_all <;> omega), by rw [← HX.out.1]; exact H1.out⟩
                  · have v3 : (b == 0) = false := by simpa using v2
                    cases hu : hasF f 4 with
                    | true =>
                      rw [hu] at KH
                      go_wp2_with (fail)
                      refine (KH.out _).2.2.1.mono ?_
                      rintro e wq ⟨rfl, rfl⟩
                      go_wp2
                      go_ret
                      exact ⟨by rw [HE.out]; unfold ckE okI isOp fitsF mayN leastF mostF; dsimp only; rw [← HO.out.2.2]; have ho1 := HO.out.1; have ho2 := HO.out.2.1; clear HE HO; (cases h1q : hasF f 1 <;> cases h2q : hasF f 2 <;> simp_all <;> omega), by rw [← HX.out.1]; exact H1.out⟩
                    | false =>
                      rw [hu] at KH
                      go_wp2_with (fail)
                      refine (KH.out _).2.2.1.mono ?_
                      rintro e wq ⟨rfl, rfl⟩
                      cases hv : hasF f 8 with
                      | true =>
                        rw [hv] at KH
                        go_wp2_with (fail)
                        refine (KH.out _).2.2.2.mono ?_
                        rintro e wq ⟨rfl, rfl⟩
                        go_wp2
                        go_ret
                        exact ⟨by rw [HE.out]; unfold ckE okI isOp fitsF mayN leastF mostF; dsimp only; rw [← HO.out.2.2]; have ho1 := HO.out.1; have ho2 := HO.out.2.1; clear HE HO; (cases h1q : hasF f 1 <;> cases h2q : hasF f 2 <;> simp_all <;> omega), by rw [← HX.out.1]; exact H1.out⟩
                      | false =>
                        rw [hv] at KH
                        go_wp2_with (fail)
                        refine (KH.out _).2.2.2.mono ?_
                        rintro e wq ⟨rfl, rfl⟩
                        go_wp2
                        go_ret
                        exact ⟨by rw [HE.out]; unfold ckE okI isOp fitsF mayN leastF mostF; dsimp only; rw [← HO.out.2.2]; have ho1 := HO.out.1; have ho2 := HO.out.2.1; clear HE HO; (cases h1q : hasF f 1 <;> cases h2q : hasF f 2 <;> simp_all <;> omega), by rw [← HX.out.1]; exact H1.out⟩
          · have u3 : (a == 0) = false := by simpa using u2
            cases hu : hasF f 4 with
            | true =>
              rw [hu] at KH
              go_wp2_with (fail)
              refine (KH.out _).2.2.1.mono ?_
              rintro e wq ⟨rfl, rfl⟩
              go_wp2
              go_ret
              exact ⟨by rw [HE.out]; unfold ckE okI isOp fitsF mayN leastF mostF; dsimp only; rw [← HO.out.2.2]; have ho1 := HO.out.1; have ho2 := HO.out.2.1; clear HE HO; (cases h1q : hasF f 1 <;> cases h2q : hasF f 2 <;> simp_all <;> omega), by rw [← HX.out.1]; exact H1.out⟩
            | false =>
              rw [hu] at KH
              go_wp2_with (fail)
              refine (KH.out _).2.2.1.mono ?_
              rintro e wq ⟨rfl, rfl⟩
              cases hv : hasF f 8 with
              | true =>
                rw [hv] at KH
                go_wp2_with (fail)
                refine (KH.out _).2.2.2.mono ?_
                rintro e wq ⟨rfl, rfl⟩
                go_wp2
                go_ret
                exact ⟨by rw [HE.out]; unfold ckE okI isOp fitsF mayN leastF mostF; dsimp only; rw [← HO.out.2.2]; have ho1 := HO.out.1; have ho2 := HO.out.2.1; clear HE HO; (cases h1q : hasF f 1 <;> cases h2q : hasF f 2 <;> simp_all <;> omega), by rw [← HX.out.1]; exact H1.out⟩
              | false =>
                rw [hv] at KH
                go_wp2_with (fail)
                refine (KH.out _).2.2.2.mono ?_
                rintro e wq ⟨rfl, rfl⟩
                go_wp2
                go_ret
                exact ⟨by rw [HE.out]; unfold ckE okI isOp fitsF mayN leastF mostF; dsimp only; rw [← HO.out.2.2]; have ho1 := HO.out.1; have ho2 := HO.out.2.1; clear HE HO; (cases h1q : hasF f 1 <;> cases h2q : hasF f 2 <;> simp_all <;> omega), by rw [← HX.out.1]; exact H1.out⟩
end Go.Proofs.YtmclcobklcjmnaaDoor
