/- Which writes may be: no text too long, each cell there, each another one. Conditions: ints are within 64 bits. -/
import Derived.Test.YtjippoejaieneaaGreatJrb
namespace Go.Proofs.YtjippoejaieneaaGreat
open Go.RowKit Go.Maps
set_option maxRecDepth 20000
set_option linter.unusedVariables false

def Wt.agg (x : Wt) : Value := .agg #[.int .i64 x.c, .string x.d]
def longB (y : Wt) : Bool := decide (116 < y.d.size)
def sameB (c : Int) (y : Wt) : Bool := decide (y.c = c)
theorem isLong_any (x : Wt) (w : World) : Calls Tryz.prog 92 #[x.agg] w fun e w' => e = .returned (.bool (longB x)) ∧ Below w.heap.size w w' := by
  unfold Wt.agg
  go_enter Tryz.func92, Tryz.ntmps92
  go_wp2
  go_ret
  exact ⟨congrArg (fun b => Ending.returned (Value.bool b)) (show decide (116 < (x.d.size : Int)) = longB x from by unfold longB; rw [Bool.eq_iff_iff, decide_eq_true_iff, decide_eq_true_iff]; omega), (Below.refl _ w).alloc (Nat.le_refl _) _⟩
theorem same_any (x : Wt) (bx : Nat) (c : Int) (w : World) (hc : w.cell? ⟨bx, 0, none⟩ = some (.int .i64 c)) : Calls Tryz.prog 118 #[x.agg, .pointer (some ⟨bx, 0, none⟩)] w fun e w' => e = .returned (.bool (sameB c x)) ∧ Below w.heap.size w w' := by
  unfold Wt.agg
  have hc2 := cell_below hc ((Below.refl _ w).alloc (Nat.le_refl _) (.cells #[.int .i64 x.c, .string x.d] 84))
  go_enter Tryz.func118, Tryz.ntmps118
  go_wp2
  go_ret
  exact ⟨by unfold sameB; congr 2, (Below.refl _ w).alloc (Nat.le_refl _) _⟩
set_option maxHeartbeats 2000000 in
theorem idxL_any (G : Nat → Prop) (v : Value) (l : List Wt) (w : World) (h : WV w G v l) (hl : l.length ≤ 17592186044416) :
    Calls Tryz.prog 117 #[v, .func (.func 92) #[] #[]] w fun e w' => (∃ r : Int, e = .returned (.int .i64 r) ∧ (0 ≤ r ↔ l.any longB = true)) ∧ Below w.heap.size w w' := by
  obtain ⟨q, cap, rfl, hlc, hw⟩ := h
  have HW := Lib.hid hw
  have kc : Hid (∀ (y : Wt) W, Below w.heap.size w W → Calls Tryz.prog 92 #[.agg #[.int .i64 y.c, .string y.d]] W fun e w' => e = .returned (.bool (longB y)) ∧ Below W.heap.size W w') := fun y W hb => isLong_any y W
  clear hw
  obtain ⟨L, hL⟩ : ∃ L, L = l.length := ⟨_, rfl⟩
  have HL := Lib.hid hL
  have hL4 : L ≤ 17592186044416 := by omega
  rw [← hL] at hlc
  clear hl
  go_enter Tryz.func117, Tryz.ntmps117
  rw [← HL.out]
  clear hL
  go_wp2_with fail
  go_loopw [8] (fun i W => ∃ k : Nat, k ≤ L ∧ i = .int .i64 (k : Int) ∧ (l.take k).any longB = false ∧ Below w.heap.size w W) (fun i _ => L - (RowKit.intOf i).toNat)
  case atStart => exact ⟨0, Nat.zero_le _, rfl, rfl, Below.refl _ w⟩
  case round =>
    obtain ⟨k, hk', rfl, hno, hb⟩ := hrel
    by_cases hlt : k < L
    · have hki : (k : Int) < (L : Int) := by omega
      obtain ⟨b, o, hq, _, hbl, u0, u1⟩ := HW.out k (by rw [← HL.out]; exact hlt)
      obtain ⟨x, hx⟩ : ∃ x, x = l[k]'(by rw [← HL.out]; exact hlt) := ⟨_, rfl⟩
      rw [← hx] at u0 u1
      have hlk : l[k]? = some x := by rw [List.getElem?_eq_getElem, hx]
      have y0 := cell_below u0 hb
      have y1 := cell_below u1 hb
      subst hq
      obtain ⟨O, hO⟩ : ∃ O, O = o + k * 2 := ⟨_, rfl⟩
      rw [← hO] at y0 y1
      have hOs : o + k * 2 = O := hO.symm
      have KC := Lib.hid (kc.out x wr hb)
      have HB := Lib.hid hb
      cases hz : longB x with
      | true =>
        have HF : Hid (l.any longB = true) := List.any_eq_true.2 ⟨x, List.mem_of_getElem? hlk, hz⟩
        clear u0 u1 hx hb hO hno hlk kc
        go_wp2_with (go_at_call 92; (with_reducible refine KC.out.mono ?_); rintro e w2 ⟨rfl, hb2⟩; rw [hz])
        go_ret
        exact ⟨⟨_, rfl, by rw [HF.out]; simp⟩, HB.out.trans (hb2.mono HB.out.size)⟩
      | false =>
        have HF : Hid ((l.take (k + 1)).any longB = false) := by
          unfold Hid
          rw [List.take_add_one, List.any_append, hno, hlk]
          simp [hz]
        clear u0 u1 hx hb hO hno hlk
        go_wp2_with (go_at_call 92; (with_reducible refine KC.out.mono ?_); rintro e w2 ⟨rfl, hb2⟩; rw [hz])
        go_roundw
        case rel => exact ⟨k + 1, by omega, by go_num, HF.out, HB.out.trans (hb2.mono HB.out.size)⟩
        case measure => simp only [RowKit.intOf]; omega
    · have hkL : k = L := by omega
      subst hkL
      have HF : Hid (l.any longB = false) := by
        have := hno
        rw [HL.out, List.take_length] at this
        exact this
      clear hno
      go_wp2
      go_ret
      exact ⟨⟨_, rfl, by rw [HF.out]; simp⟩, hb⟩
theorem hasL_any (G : Nat → Prop) (v : Value) (l : List Wt) (w : World) (h : WV w G v l) (hl : l.length ≤ 17592186044416) :
    Calls Tryz.prog 91 #[v, .func (.func 92) #[] #[]] w fun e w' => e = .returned (.bool (l.any longB)) ∧ Below w.heap.size w w' := by
  have k := Lib.hid (idxL_any G v l w h hl)
  clear h
  go_enter Tryz.func91, Tryz.ntmps91
  go_wp2_with (go_at_call 117; (with_reducible refine k.out.mono ?_); rintro e w1 ⟨⟨r, rfl, hr⟩, hb⟩; have HRR := Lib.hid hr; clear hr)
  go_ret
  have e : decide (0 ≤ r) = l.any longB := by rw [Bool.eq_iff_iff, decide_eq_true_iff]; exact HRR.out
  exact ⟨congrArg (fun b => Ending.returned (Value.bool b)) e, hb⟩
set_option maxHeartbeats 2000000 in
theorem idxS_any (G : Nat → Prop) (v : Value) (l : List Wt) (bx : Nat) (c : Int) (w : World) (h : WV w G v l) (hc : w.cell? ⟨bx, 0, none⟩ = some (.int .i64 c)) (hl : l.length ≤ 17592186044416) :
    Calls Tryz.prog 117 #[v, .func (.func 118) #[] #[.pointer (some ⟨bx, 0, none⟩)]] w fun e w' => (∃ r : Int, e = .returned (.int .i64 r) ∧ (0 ≤ r ↔ l.any (sameB c) = true)) ∧ Below w.heap.size w w' := by
  obtain ⟨q, cap, rfl, hlc, hw⟩ := h
  have HW := Lib.hid hw
  have kc : Hid (∀ (y : Wt) W, Below w.heap.size w W → Calls Tryz.prog 118 #[.agg #[.int .i64 y.c, .string y.d], .pointer (some ⟨bx, 0, none⟩)] W fun e w' => e = .returned (.bool ((sameB c) y)) ∧ Below W.heap.size W w') := fun y W hb => same_any y bx c W (cell_below hc hb)
  clear hw hc
  obtain ⟨L, hL⟩ : ∃ L, L = l.length := ⟨_, rfl⟩
  have HL := Lib.hid hL
  have hL4 : L ≤ 17592186044416 := by omega
  rw [← hL] at hlc
  clear hl
  go_enter Tryz.func117, Tryz.ntmps117
  rw [← HL.out]
  clear hL
  go_wp2_with fail
  go_loopw [8] (fun i W => ∃ k : Nat, k ≤ L ∧ i = .int .i64 (k : Int) ∧ (l.take k).any (sameB c) = false ∧ Below w.heap.size w W) (fun i _ => L - (RowKit.intOf i).toNat)
  case atStart => exact ⟨0, Nat.zero_le _, rfl, rfl, Below.refl _ w⟩
  case round =>
    obtain ⟨k, hk', rfl, hno, hb⟩ := hrel
    by_cases hlt : k < L
    · have hki : (k : Int) < (L : Int) := by omega
      obtain ⟨b, o, hq, _, hbl, u0, u1⟩ := HW.out k (by rw [← HL.out]; exact hlt)
      obtain ⟨x, hx⟩ : ∃ x, x = l[k]'(by rw [← HL.out]; exact hlt) := ⟨_, rfl⟩
      rw [← hx] at u0 u1
      have hlk : l[k]? = some x := by rw [List.getElem?_eq_getElem, hx]
      have y0 := cell_below u0 hb
      have y1 := cell_below u1 hb
      subst hq
      obtain ⟨O, hO⟩ : ∃ O, O = o + k * 2 := ⟨_, rfl⟩
      rw [← hO] at y0 y1
      have hOs : o + k * 2 = O := hO.symm
      have KC := Lib.hid (kc.out x wr hb)
      have HB := Lib.hid hb
      cases hz : (sameB c) x with
      | true =>
        have HF : Hid (l.any (sameB c) = true) := List.any_eq_true.2 ⟨x, List.mem_of_getElem? hlk, hz⟩
        clear u0 u1 hx hb hO hno hlk kc
        go_wp2_with (go_at_call 118; (with_reducible refine KC.out.mono ?_); rintro e w2 ⟨rfl, hb2⟩; rw [hz])
        go_ret
        exact ⟨⟨_, rfl, by rw [HF.out]; simp⟩, HB.out.trans (hb2.mono HB.out.size)⟩
      | false =>
        have HF : Hid ((l.take (k + 1)).any (sameB c) = false) := by
          unfold Hid
          rw [List.take_add_one, List.any_append, hno, hlk]
          simp [hz]
        clear u0 u1 hx hb hO hno hlk
        go_wp2_with (go_at_call 118; (with_reducible refine KC.out.mono ?_); rintro e w2 ⟨rfl, hb2⟩; rw [hz])
        go_roundw
        case rel => exact ⟨k + 1, by omega, by go_num, HF.out, HB.out.trans (hb2.mono HB.out.size)⟩
        case measure => simp only [RowKit.intOf]; omega
    · have hkL : k = L := by omega
      subst hkL
      have HF : Hid (l.any (sameB c) = false) := by
        have := hno
        rw [HL.out, List.take_length] at this
        exact this
      clear hno
      go_wp2
      go_ret
      exact ⟨⟨_, rfl, by rw [HF.out]; simp⟩, hb⟩
theorem hasS_any (G : Nat → Prop) (v : Value) (l : List Wt) (bx : Nat) (c : Int) (w : World) (h : WV w G v l) (hc : w.cell? ⟨bx, 0, none⟩ = some (.int .i64 c)) (hl : l.length ≤ 17592186044416) :
    Calls Tryz.prog 91 #[v, .func (.func 118) #[] #[.pointer (some ⟨bx, 0, none⟩)]] w fun e w' => e = .returned (.bool (l.any (sameB c))) ∧ Below w.heap.size w w' := by
  have k := Lib.hid (idxS_any G v l bx c w h hc hl)
  clear h hc
  go_enter Tryz.func91, Tryz.ntmps91
  go_wp2_with (go_at_call 117; (with_reducible refine k.out.mono ?_); rintro e w1 ⟨⟨r, rfl, hr⟩, hb⟩; have HRR := Lib.hid hr; clear hr)
  go_ret
  have e : decide (0 ≤ r) = l.any (sameB c) := by rw [Bool.eq_iff_iff, decide_eq_true_iff]; exact HRR.out
  exact ⟨congrArg (fun b => Ending.returned (Value.bool b)) e, hb⟩
end Go.Proofs.YtjippoejaieneaaGreat
