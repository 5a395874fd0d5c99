/- Are all cells there, each another one? and why writes can be no transaction. Conditions: ints are within 64 bits. -/
import Derived.Test.YtjippoejaieneaaGreatJcf
namespace Go.Proofs.YtjippoejaieneaaGreat
open Go.RowKit Go.Maps
set_option maxRecDepth 20000
set_option linter.unusedVariables false

def okAt (J : Jn) (V : Dv) (l : List Wt) (k : Nat) : Bool := match l[k]? with
  | some x => isC J V x.c && !(l.take k).any (sameB x.c)
  | none => true
/-- each cell is there, and no two are the same -/
def okL (J : Jn) (V : Dv) (l : List Wt) : Bool := (List.range l.length).all (okAt J V l)
theorem okL_no {J : Jn} {V : Dv} {l : List Wt} {k : Nat} (hk : k < l.length) (h : okAt J V l k = false) : okL J V l = false := by
  cases hz : okL J V l with
  | false => rfl
  | true =>
    have := List.all_eq_true.1 hz k (List.mem_range.2 hk)
    rw [h] at this; cases this
theorem okL_yes {J : Jn} {V : Dv} {l : List Wt} (h : ∀ k, k < l.length → okAt J V l k = true) : okL J V l = true :=
  List.all_eq_true.2 fun k hk => h k (List.mem_range.1 hk)
theorem WV.take {w : World} {G : Nat → Prop} {q : Option Addr} {l : List Wt} {cap : Nat} (h : WV w G (.slice q l.length cap) l) (k : Nat) (hk : k ≤ l.length) : WV w G (.slice q k cap) (l.take k) := by
  obtain ⟨q', cap', e, h2, h3⟩ := h
  injection e with e1 e2 e3
  subst e1 e3
  have hlen : (l.take k).length = k := by simp; omega
  refine ⟨q, cap, by rw [hlen], by omega, fun i hi => ?_⟩
  obtain ⟨b, o, g1, g2, g3, g4, g5⟩ := h3 i (by omega)
  exact ⟨b, o, g1, g2, g3, by rw [List.getElem_take]; exact g4, by rw [List.getElem_take]; exact g5⟩
set_option maxHeartbeats 4000000 in
theorem areCells_any (F G : Nat → Prop) (j x p : Nat) (mv : Value) (S : St) (V : Dv) (J : Jn) (v : Value) (l : List Wt) (w : World) (hx : JX w F j x p mv S V J) (hv : WV w G v l) (ha : J.area < V.cnt) (hl : l.length ≤ 17592186044416) :
    Calls Tryz.prog 93 #[.pointer (some ⟨j, 0, none⟩), v] w fun e w' => e = .returned (.bool (okL J V l)) ∧ Below w.heap.size w w' := by
  have hv0 := hv
  obtain ⟨q, cap, rfl, hlc, hw⟩ := hv
  have HW := Lib.hid hw
  have HV := Lib.hid hv0
  have HX := Lib.hid hx
  clear hw hv0 hx
  obtain ⟨L, hL⟩ : ∃ L, L = l.length := ⟨_, rfl⟩
  have HL := Lib.hid hL
  have hL4 : L ≤ 17592186044416 := by omega
  rw [← hL] at hlc
  clear hl
  go_enter Tryz.func93, Tryz.ntmps93
  rw [← HL.out]
  clear hL
  go_wp2_with fail
  go_loopw [10] (fun i W => ∃ k : Nat, k ≤ L ∧ i = .int .i64 (k : Int) ∧ (∀ i, i < k → okAt J V l i = true) ∧ Below w.heap.size w W) (fun i _ => L - (RowKit.intOf i).toNat)
  case atStart => exact ⟨0, Nat.zero_le _, rfl, fun i hi => absurd hi (Nat.not_lt_zero _), Below.refl _ w⟩
  case round =>
    obtain ⟨k, hk', rfl, hall, hb⟩ := hrel
    by_cases hlt : k < L
    · have hki : (k : Int) < (L : Int) := by omega
      obtain ⟨b, o, hq, _, hbl, u0, u1⟩ := HW.out k (by rw [← HL.out]; exact hlt)
      obtain ⟨y, hy⟩ : ∃ y, y = l[k]'(by rw [← HL.out]; exact hlt) := ⟨_, rfl⟩
      rw [← hy] at u0 u1
      have hlk : l[k]? = some y := by rw [List.getElem?_eq_getElem, hy]
      have y0 := cell_below u0 hb
      have y1 := cell_below u1 hb
      obtain ⟨w2, hw2⟩ : ∃ w2, w2 = wr.alloc (.cells #[.int .i64 y.c, .string y.d] 84) := ⟨_, rfl⟩
      have HW2 : Hid (wr.alloc (.cells #[.int .i64 y.c, .string y.d] 84) = w2) := hw2.symm
      have hb2 : Below wr.heap.size wr w2 := by rw [hw2]; exact (Below.refl _ wr).alloc (Nat.le_refl _) _
      have hbx : w2.heap[wr.heap.size]? = some (.cells #[.int .i64 y.c, .string y.d] 84 (0, 0)) := by rw [hw2]; exact block_new wr _
      have e0 : w2.cell? ⟨wr.heap.size, 0, none⟩ = some (.int .i64 y.c) := by rw [cell_of_row _ _ _ _ _ _ hbx]; rfl
      have hbw : Below w.heap.size w w2 := hb.trans (hb2.mono hb.size)
      have KI := Lib.hid (isCell_any F j x p mv S V J y.c w2 (HX.out.below hbw) ha)
      have KS : Hid (∀ W, Below w2.heap.size w2 W → Calls Tryz.prog 91 #[.slice q k cap, .func (.func 118) #[] #[.pointer (some ⟨wr.heap.size, 0, none⟩)]] W fun e w' => e = .returned (.bool ((l.take k).any (sameB y.c))) ∧ Below W.heap.size W w') := fun W hW => by
        have hvw : WV W G (.slice q l.length cap) l := HV.out.below (hbw.trans (hW.mono hbw.size))
        exact hasS_any G _ _ wr.heap.size y.c W (hvw.take k (by rw [← HL.out]; omega)) (cell_below e0 hW) (by simp; omega)
      have hmf : ∀ W : World, (Instr.makeFunc (Fn.func 118) #[] #[.pointer (some ⟨wr.heap.size, 0, none⟩)]).run Tryz.prog W = .ok (.func (.func 118) #[] #[.pointer (some ⟨wr.heap.size, 0, none⟩)]) W := fun W => by kernel_rfl
      have hat : okAt J V l k = (isC J V y.c && !(l.take k).any (sameB y.c)) := by unfold okAt; rw [hlk]
      have hkc : k ≤ cap := by omega
      subst hq
      obtain ⟨O, hO⟩ : ∃ O, O = o + k * 2 := ⟨_, rfl⟩
      rw [← hO] at y0 y1
      have hOs : o + k * 2 = O := hO.symm
      have HB := Lib.hid (And.intro hbw hall)
      have hbw2 := Lib.hid hbw
      cases hz : isC J V y.c with
      | false =>
        rw [hz] at hat
        have HF : Hid (okL J V l = false) := okL_no (by rw [← HL.out]; exact hlt) hat
        clear u0 u1 hy hb hO hlk hat hall hw2 hb2 hbx hbw
        go_wp2_with (first
          | (rw [HW2.out])
          | (go_at_call 52; (with_reducible refine KI.out.mono ?_); rintro e w3 ⟨rfl, hb3⟩; rw [hz]))
        go_ret
        exact ⟨by rw [HF.out]; rfl, HB.out.1.trans (hb3.mono HB.out.1.size)⟩
      | true =>
        rw [hz, Bool.true_and] at hat
        cases hy2 : (l.take k).any (sameB y.c) with
        | true =>
          rw [hy2] at hat
          have HF : Hid (okL J V l = false) := okL_no (by rw [← HL.out]; exact hlt) hat
          clear u0 u1 hy hb hO hlk hat hall hw2 hb2 hbx hbw
          go_wp2_with (first
            | (rw [HW2.out])
            | (go_at_call 52; (with_reducible refine KI.out.mono ?_); rintro e w3 ⟨rfl, hb3⟩; rw [hz])
            | (go_at_call 91; (with_reducible refine (KS.out _ hb3).mono ?_); rintro e w4 ⟨rfl, hb4⟩; rw [hy2]))
          go_ret
          exact ⟨by rw [HF.out]; rfl, HB.out.1.trans ((hb3.trans (hb4.mono hb3.size)).mono HB.out.1.size)⟩
        | false =>
          rw [hy2] at hat
          have HF : Hid (∀ i, i < k + 1 → okAt J V l i = true) := fun i hi => by
            by_cases e : i = k
            · rw [e, hat]; rfl
            · exact hall i (by omega)
          clear u0 u1 hy hb hO hlk hat hall hw2 hb2 hbx hbw
          go_wp2_with (first
            | (rw [HW2.out])
            | (go_at_call 52; (with_reducible refine KI.out.mono ?_); rintro e w3 ⟨rfl, hb3⟩; rw [hz])
            | (go_at_call 91; (with_reducible refine (KS.out _ hb3).mono ?_); rintro e w4 ⟨rfl, hb4⟩; rw [hy2]))
          go_roundw
          case rel => exact ⟨k + 1, by omega, by go_num, HF.out, HB.out.1.trans ((hb3.trans (hb4.mono hb3.size)).mono HB.out.1.size)⟩
          case measure => simp only [RowKit.intOf]; omega
    · have hkL : k = L := by omega
      subst hkL
      have HF : Hid (okL J V l = true) := okL_yes fun i hi => hall i (by rw [HL.out]; exact hi)
      clear hall
      go_wp2
      go_ret
      exact ⟨by rw [HF.out]; rfl, hb⟩
end Go.Proofs.YtjippoejaieneaaGreat
