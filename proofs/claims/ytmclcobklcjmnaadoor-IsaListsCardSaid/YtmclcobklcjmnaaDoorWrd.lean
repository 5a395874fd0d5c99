/- A word's number. Conditions: the library's variables are as they were laid. -/
import Derived.Test.YtmclcobklcjmnaaDoorLab
namespace Go.Proofs.YtmclcobklcjmnaaDoor
open Go.RowKit Go.Maps
set_option linter.unusedVariables false
set_option linter.unusedSimpArgs false

def leadB (op : Int) : Bool := decide (op = 24) || decide (op = 25) || decide (op = 26) || decide (op = 28)
set_option maxHeartbeats 1000000 in
theorem lead_any (op : Int) (w : World) : Calls Tryd.prog 79 #[.int .i64 op] w fun e w' => e = .returned (.bool (leadB op)) ∧ w' = w := by
  unfold leadB
  by_cases h1 : op = 24
  · subst h1
    go_enter Tryd.func79, Tryd.ntmps79
    go_wp2
    go_ret
    exact ⟨rfl, rfl⟩
  · by_cases h2 : op = 25
    · subst h2
      clear h1
      go_enter Tryd.func79, Tryd.ntmps79
      go_wp2
      go_ret
      exact ⟨rfl, rfl⟩
    · by_cases h3 : op = 26
      · subst h3
        clear h1 h2
        go_enter Tryd.func79, Tryd.ntmps79
        go_wp2
        go_ret
        exact ⟨rfl, rfl⟩
      · by_cases h4 : op = 28
        · subst h4
          clear h1 h2 h3
          go_enter Tryd.func79, Tryd.ntmps79
          go_wp2
          go_ret
          exact ⟨rfl, rfl⟩
        · have hL : Hid ((decide (op = 24) || decide (op = 25) || decide (op = 26) || decide (op = 28)) = false) := Lib.hid (by simp [h1, h2, h3, h4])
          rw [hL.out]
          have f1 : (op == 24) = false := by simpa using h1
          have f2 : (op == 25) = false := by simpa using h2
          have f3 : (op == 26) = false := by simpa using h3
          have f4 : (op == 28) = false := by simpa using h4
          clear h1 h2 h3 h4
          go_enter Tryd.func79, Tryd.ntmps79
          go_wp2
          go_ret
          exact ⟨rfl, rfl⟩
def uN (l : Bs) : Nat := match Lib.parseUintB 32 l with | .ok u => u | .«syntax» => 0 | .range => 4294967295
def uB (l : Bs) : Bool := match Lib.parseUintB 32 l with | .ok _ => true | _ => false
theorem uN_lt (l : Bs) : uN l < 4294967296 := by
  unfold uN
  cases h : Lib.parseUintB 32 l with
  | ok u => have := Lib.parseUintB_le h; show u < 4294967296; omega
  | «syntax» => decide
  | range => decide
theorem parseU_any (s : ByteArray) (hs : s.size ≤ 281474976710656) (w : World) (hL : LaidV w) : Calls Tryd.prog 77 #[.string s, .int .i64 10, .int .i64 32] w fun e w' => (∃ v, e = .returned (.tuple #[.int .u64 (uN s.data.toList : Nat), v]) ∧ (if uB s.data.toList = true then v = .nilIface else ∃ t N, v = .iface t (.pointer (some ⟨N, 0, none⟩)))) ∧ Below w.heap.size w w' := by
  unfold uN uB
  cases h : Lib.parseUintB 32 s.data.toList with
  | ok v =>
    refine (Tryd.strconv_ParseUint_10_at32_ok s (by omega) v h w).mono fun e w' ⟨he, hw⟩ => ⟨⟨_, he, by simp⟩, ?_⟩
    rcases hw with rfl | rfl
    · exact Below.refl _ _
    · exact Lib.bytesWorld_below _ _ _
  | «syntax» =>
    obtain ⟨tp, p, hv⟩ := hL.syn
    exact (Tryd.strconv_ParseUint_10_at32_syntax_var s hs h tp p w hv).mono fun e w' ⟨N, he, _, _, hb⟩ => ⟨⟨_, he, by simp⟩, hb⟩
  | range =>
    obtain ⟨tp, p, hv⟩ := hL.rng
    exact (Tryd.strconv_ParseUint_10_at32_range_var s hs h tp p w hv).mono fun e w' ⟨N, he, _, _, hb⟩ => ⟨⟨_, he, by simp⟩, hb⟩
/-- the four bytes of a number -/
def fourB (u : Nat) : Bs := [UInt8.ofNat (u / 16777216 % 256), UInt8.ofNat (u / 65536 % 256), UInt8.ofNat (u / 256 % 256), UInt8.ofNat (u % 256)]
def wrdB (l : Bs) : Bool := uB l && decide (Lib.decDigits (uN l) = l)
def wrdS (l : Bs) : Bs := if wrdB l then fourB (uN l) else []
def arrV (c0 c1 c2 c3 : Nat) : Nat → Array Value
  | 0 => #[.int .u8 0, .int .u8 0, .int .u8 0, .int .u8 0]
  | 1 => #[.int .u8 0, .int .u8 0, .int .u8 0, .int .u8 c3]
  | 2 => #[.int .u8 0, .int .u8 0, .int .u8 c2, .int .u8 c3]
  | 3 => #[.int .u8 0, .int .u8 c1, .int .u8 c2, .int .u8 c3]
  | _ => #[.int .u8 c0, .int .u8 c1, .int .u8 c2, .int .u8 c3]
set_option maxRecDepth 100000 in
set_option maxHeartbeats 4000000 in
theorem wrd_any (s : ByteArray) (hs : s.size ≤ 281474976710656) (w : World) (hL : LaidV w) : Calls Tryd.prog 66 #[.string s] w fun e w' => e = .returned (.tuple #[.string (str (wrdS s.data.toList)), .bool (wrdB s.data.toList)]) ∧ Below w.heap.size w w' := by
  have KU := Lib.hid (parseU_any s hs w hL)
  have KF : Hid (∀ u : Nat, u < 18446744073709551616 → ∀ w1, Below w.heap.size w w1 → Calls Tryd.prog 54 #[.int .u64 (u : Nat), .int .i64 10] w1 fun e w' => e = .returned (.string (str (Lib.decDigits u))) ∧ Below w1.heap.size w1 w') := Lib.hid fun u hu w1 h => fmt_any u hu w1 (hL.below h)
  have hu := uN_lt s.data.toList
  unfold wrdS wrdB
  clear hL hs
  have e0 : Hid (str [] = ByteArray.empty) := Lib.hid rfl
  cases hb : uB s.data.toList with
  | false =>
    rw [hb] at KU
    rw [Bool.false_and, if_neg (by simp), e0.out]
    generalize uN s.data.toList = u at *
    clear hb hu KF
    go_enter Tryd.func66, Tryd.ntmps66
    go_wp2_with (go_at_call 77; (with_reducible refine KU.out.mono ?_); rintro e w1 ⟨⟨v, rfl, hv⟩, hb⟩; rw [if_neg (by simp)] at hv; obtain ⟨t, N, rfl⟩ := hv; have HB := Lib.hid hb; clear hb)
    go_ret2
    exact ⟨rfl, HB.out⟩
  | true =>
    rw [hb] at KU
    rw [Bool.true_and]
    have KF2 := Lib.hid (KF.out (uN s.data.toList) (by omega))
    by_cases hd : Lib.decDigits (uN s.data.toList) = s.data.toList
    · rw [decide_eq_true hd, if_pos rfl]
      rw [hd, str_toList] at KF2
      obtain ⟨u, hu2⟩ : ∃ u, u = uN s.data.toList := ⟨_, rfl⟩
      rw [← hu2] at hu KU KF2 ⊢
      obtain ⟨c0, e0⟩ : ∃ c0 : UInt8, c0 = UInt8.ofNat (u / 16777216 % 256) := ⟨_, rfl⟩
      obtain ⟨c1, e1⟩ : ∃ c1 : UInt8, c1 = UInt8.ofNat (u / 65536 % 256) := ⟨_, rfl⟩
      obtain ⟨c2, e2⟩ : ∃ c2 : UInt8, c2 = UInt8.ofNat (u / 256 % 256) := ⟨_, rfl⟩
      obtain ⟨c3, e3⟩ : ∃ c3 : UInt8, c3 = UInt8.ofNat (u % 256) := ⟨_, rfl⟩
      have S : Hid (str (fourB u) = ⟨#[c0, c1, c2, c3]⟩) := Lib.hid (by unfold fourB; rw [e0, e1, e2, e3]; rfl)
      rw [S.out]
      have W8 : ∀ x : Int, IntKind.u8.wrap x = x % 256 := fun x => by
        unfold IntKind.wrap
        simp only [IntKind.bits, IntKind.signed]
        simp only [Bool.false_and, Bool.false_eq_true, if_false]
        rfl
      have g0 : IntKind.u8.wrap ((u : Int) / 16777216) = (c0.toNat : Int) := by rw [W8, e0]; simp
      have g1 : IntKind.u8.wrap ((u : Int) / 65536) = (c1.toNat : Int) := by rw [W8, e1]; simp
      have g2 : IntKind.u8.wrap ((u : Int) / 256) = (c2.toNat : Int) := by rw [W8, e2]; simp
      have g3 : IntKind.u8.wrap (u : Int) = (c3.toNat : Int) := by rw [W8, e3]; simp
      have G := Lib.hid (And.intro g0 (And.intro g1 (And.intro g2 g3)))
      clear g0 g1 g2 g3 W8 e0 e1 e2 e3 hu2 hb hd KF hu
      go_enter Tryd.func66, Tryd.ntmps66
      go_wp2_with (first
        | (go_at_call 77; (with_reducible refine KU.out.mono ?_); rintro e w1 ⟨⟨v, rfl, hv⟩, hb⟩; rw [if_pos rfl] at hv; subst hv; have HB1 := Lib.hid hb; clear hb)
        | (go_at_call 54; (with_reducible refine (KF2.out _ HB1.out).mono ?_); rintro e w2 ⟨rfl, hb⟩; have HB2 := Lib.hid (HB1.out.trans (hb.mono HB1.out.size)); clear hb))
      obtain ⟨X, hX⟩ : ∃ X, X = w2.heap.size := ⟨_, rfl⟩
      have h0 : (w2.alloc (.cells #[.int .u8 0, .int .u8 0, .int .u8 0, .int .u8 0] 114)).heap[X]? = some (.cells (arrV c0.toNat c1.toNat c2.toNat c3.toNat 0) 114) := by rw [hX]; exact heap_alloc_last w2 _
      have HX : Hid (w.heap.size ≤ X) := Lib.hid (by rw [hX]; exact HB2.out.size)
      rw [← hX]
      clear hX
      go_loopw [21] (fun i wr => ∃ k : Nat, k ≤ 4 ∧ i = .int .i64 (k : Nat) ∧ wr.heap[X]? = some (.cells (arrV c0.toNat c1.toNat c2.toNat c3.toNat k) 114) ∧ Below w.heap.size w wr) (fun i _ => 4 - (intOf i).toNat)
      case atStart => exact ⟨0, by omega, rfl, h0, HB2.out.alloc HB2.out.size _⟩
      case round =>
        obtain ⟨k, hk, rfl, hrow, hbw⟩ := hrel
        clear h0
        obtain ⟨g0, g1, g2, g3⟩ := G.out
        obtain rfl | rfl | rfl | rfl | rfl : k = 0 ∨ k = 1 ∨ k = 2 ∨ k = 3 ∨ k = 4 := by omega
        · have hr : wr.heap[X]? = some (.cells (arrV c0.toNat c1.toNat c2.toNat c3.toNat 0) 114) := hrow
          obtain ⟨x0, x1, x2, x3, z0, z1, z2, z3⟩ := row4 hr
          have gg := g3
          have HN : Hid ((wr.setCell ⟨X, 3, none⟩ (.int .u8 (c3.toNat : Nat))).heap[X]? = some (.cells (arrV c0.toNat c1.toNat c2.toNat c3.toNat 1) 114) ∧ Below w.heap.size w (wr.setCell ⟨X, 3, none⟩ (.int .u8 (c3.toNat : Nat)))) := Lib.hid ⟨set1 hr _, hbw.setCell (p := ⟨X, 3, none⟩) HX.out _⟩
          clear hr hrow hbw g0 g1 g2 g3
          go_wp2
          exact ⟨⟨1, by omega, rfl, HN.out.1, HN.out.2⟩, by simp [intOf]⟩
        · have hr : wr.heap[X]? = some (.cells (arrV c0.toNat c1.toNat c2.toNat c3.toNat 1) 114) := hrow
          obtain ⟨x0, x1, x2, x3, z0, z1, z2, z3⟩ := row4 hr
          have gg := g2
          have HN : Hid ((wr.setCell ⟨X, 2, none⟩ (.int .u8 (c2.toNat : Nat))).heap[X]? = some (.cells (arrV c0.toNat c1.toNat c2.toNat c3.toNat 2) 114) ∧ Below w.heap.size w (wr.setCell ⟨X, 2, none⟩ (.int .u8 (c2.toNat : Nat)))) := Lib.hid ⟨set1 hr _, hbw.setCell (p := ⟨X, 2, none⟩) HX.out _⟩
          clear hr hrow hbw g0 g1 g2 g3
          go_wp2
          exact ⟨⟨2, by omega, rfl, HN.out.1, HN.out.2⟩, by simp [intOf]⟩
        · have hr : wr.heap[X]? = some (.cells (arrV c0.toNat c1.toNat c2.toNat c3.toNat 2) 114) := hrow
          obtain ⟨x0, x1, x2, x3, z0, z1, z2, z3⟩ := row4 hr
          have gg := g1
          have HN : Hid ((wr.setCell ⟨X, 1, none⟩ (.int .u8 (c1.toNat : Nat))).heap[X]? = some (.cells (arrV c0.toNat c1.toNat c2.toNat c3.toNat 3) 114) ∧ Below w.heap.size w (wr.setCell ⟨X, 1, none⟩ (.int .u8 (c1.toNat : Nat)))) := Lib.hid ⟨set1 hr _, hbw.setCell (p := ⟨X, 1, none⟩) HX.out _⟩
          clear hr hrow hbw g0 g1 g2 g3
          go_wp2
          exact ⟨⟨3, by omega, rfl, HN.out.1, HN.out.2⟩, by simp [intOf]⟩
        · have hr : wr.heap[X]? = some (.cells (arrV c0.toNat c1.toNat c2.toNat c3.toNat 3) 114) := hrow
          obtain ⟨x0, x1, x2, x3, z0, z1, z2, z3⟩ := row4 hr
          have gg := g0
          have HN : Hid ((wr.setCell ⟨X, 0, none⟩ (.int .u8 (c0.toNat : Nat))).heap[X]? = some (.cells (arrV c0.toNat c1.toNat c2.toNat c3.toNat 4) 114) ∧ Below w.heap.size w (wr.setCell ⟨X, 0, none⟩ (.int .u8 (c0.toNat : Nat)))) := Lib.hid ⟨set1 hr _, hbw.setCell (p := ⟨X, 0, none⟩) HX.out _⟩
          clear hr hrow hbw g0 g1 g2 g3
          go_wp2
          exact ⟨⟨4, by omega, rfl, HN.out.1, HN.out.2⟩, by simp [intOf]⟩
        · have hr : wr.heap[X]? = some (.cells (arrV c0.toNat c1.toNat c2.toNat c3.toNat 4) 114) := hrow
          obtain ⟨x0, x1, x2, x3, -, -, -, -⟩ := row4 hr
          have cw : (convert 37 9 (.slice (some ⟨X, 0, none⟩) 4 4)).run Tryd.prog wr = .ok (.string ⟨#[c0, c1, c2, c3]⟩) wr := by
            refine run_convert_bytes_back (P := Tryd.prog) _ 37 9 5 ⟨X, 0, none⟩ 4 [c0, c1, c2, c3] Tryd.underlying37 Tryd.underlying5 Tryd.underlying9 (fun i hi => ?_)
            rw [show (⟨X, 0, none⟩ : Addr).add i = ⟨X, i, none⟩ by simp [Addr.add]; intro h; exact h.symm]
            have : i = 0 ∨ i = 1 ∨ i = 2 ∨ i = 3 := by simp at hi; omega
            rcases this with rfl | rfl | rfl | rfl <;> assumption
          have HBW := Lib.hid hbw
          clear hr hrow hbw g0 g1 g2 g3 x0 x1 x2 x3
          go_wp2
          go_ret2
          exact ⟨rfl, HBW.out⟩
    · rw [decide_eq_false hd, if_neg (by simp), e0.out]
      have hq : ((str (Lib.decDigits (uN s.data.toList))).toList == s.toList) = false := by rw [ByteArray.toList_eq, ByteArray.toList_eq, str_list]; simpa using hd
      generalize str (Lib.decDigits (uN s.data.toList)) = t at *
      generalize uN s.data.toList = u at *
      clear hb hu KF hd
      go_enter Tryd.func66, Tryd.ntmps66
      go_wp2_with (first
        | (go_at_call 77; (with_reducible refine KU.out.mono ?_); rintro e w1 ⟨⟨v, rfl, hv⟩, hb⟩; rw [if_pos rfl] at hv; subst hv; have HB1 := Lib.hid hb; clear hb)
        | (go_at_call 54; (with_reducible refine (KF2.out _ HB1.out).mono ?_); rintro e w2 ⟨rfl, hb⟩; have HB2 := Lib.hid (HB1.out.trans (hb.mono HB1.out.size)); clear hb))
      go_ret2
      exact ⟨rfl, HB2.out⟩
end Go.Proofs.YtmclcobklcjmnaaDoor
