/- A record is counted. Conditions: ints are within 64 bits. -/
import Derived.Test.YtjippoejaieneaaGreatJac
import Derived.Deep.RegionHeld3
namespace Go.Proofs.YtjippoejaieneaaGreat
open Go.RowKit Go.Maps
set_option maxRecDepth 20000
set_option linter.unusedVariables false

def putM1 (M : Nat → Option Bts) (x : Wt) : Nat → Option Bts := fun i => if i = x.c.toNat then some (padB x.d.data.toList) else M i
def putM (M : Nat → Option Bts) (l : List Wt) : Nat → Option Bts := l.foldl putM1 M
theorem putM_take (M : Nat → Option Bts) (l : List Wt) (k : Nat) (hk : k < l.length) : putM M (l.take (k + 1)) = putM1 (putM M (l.take k)) l[k] := by
  unfold putM
  rw [List.take_add_one, List.foldl_append, List.getElem?_eq_getElem hk]
  rfl
def takeJ (J : Jn) (l : List Wt) : Jn := { J with last := putM J.last l, next := J.next + 1, en := J.en + (1 + (l.length : Int)) }
theorem JX.reM {w w' : World} {F : Nat → Prop} {j x p mb : Nat} {S : St} {V : Dv} {J : Jn} (h : JX w F j x p (.map (some mb)) S V J) (c : Ch (fun k => k = mb) w w') (hF : ¬ F mb) (hj : j ≠ mb) : JX w' F j x p (.map (some mb)) S V J :=
  ⟨(c.block j h.lt hj).trans h.blk, h.ext.of_heap c.size (fun k hk hFk => c.block k hk (fun e => hF (by rw [← e]; exact hFk))), h.nj, h.sok, h.good, fun k hk => Nat.lt_of_lt_of_le (h.bd k hk) c.size⟩
set_option maxHeartbeats 4000000 in
theorem take_any (F G : Nat → Prop) (j x p mb c : Nat) (S : St) (V : Dv) (J : Jn) (v : Value) (l : List Wt) (w : World) (hx : JX w F j x p (.map (some mb)) S V J) (hm : MapD w mb c J.last) (hc : c ≤ 4096) (hmF : ¬ F mb) (hjm : j ≠ mb) (hv : WV w G v l) (hG : ∀ k, G k → k ≠ j ∧ k ≠ mb) (hl : l.length ≤ 4096)
    (hok : ∀ y ∈ l, 0 ≤ y.c ∧ y.c < (c : Int) ∧ y.d.size ≤ 116) (hn0 : 0 ≤ J.next) (hn : J.next ≤ 4611686018427387904) (he0 : 0 ≤ J.en) (he : J.en ≤ 8192) :
    Calls Tryz.prog 61 #[.pointer (some ⟨j, 0, none⟩), v] w fun e w' => e = .returned (.tuple #[]) ∧ JX w' F j x p (.map (some mb)) S V (takeJ J l) ∧ MapD w' mb c (putM J.last l) ∧ Ch (fun k => k = j ∨ k = mb) w w' := by
  have hv0 := hv
  obtain ⟨q, cap, rfl, hlc, hw⟩ := hv
  have HV := Lib.hid hv0
  have HX := Lib.hid hx
  have HM := Lib.hid hm
  have HG := Lib.hid hG
  have hjl := hx.lt
  have hml := hm.lt
  clear hw hv0 hx hm
  obtain ⟨L, hL⟩ : ∃ L, L = l.length := ⟨_, rfl⟩
  have HL := Lib.hid hL
  have hL4 : L ≤ 4096 := by omega
  rw [← hL] at hlc
  clear hl
  go_enter Tryz.func61, Tryz.ntmps61
  rw [← HL.out]
  clear hL
  go_wp2_with fail
  go_loopw [8] (fun i W => ∃ k : Nat, k ≤ L ∧ i = .int .i64 (k : Int) ∧ JX W F j x p (.map (some mb)) S V J ∧ MapD W mb c (putM J.last (l.take k)) ∧ Ch (fun k => k = mb) w W) (fun i _ => L - (RowKit.intOf i).toNat)
  case atStart => exact ⟨0, Nat.zero_le _, rfl, HX.out, HM.out, Ch.refl _ w⟩
  case round =>
    obtain ⟨k, hk', rfl, hx1, hm1, hch⟩ := hrel
    by_cases hlt : k < L
    · have hki : (k : Int) < (L : Int) := by omega
      have hlt2 : k < l.length := by rw [← HL.out]; exact hlt
      have hv1 := HV.out.keep hch (fun z hz => (HG.out z hz).2)
      obtain ⟨q', cap', hve', _, hws⟩ := hv1
      have hq' : q = q' := by injection hve'
      subst hq'
      obtain ⟨b, o, hq, hGb, hbl, y0, y1⟩ := hws k hlt2
      obtain ⟨y, hy⟩ : ∃ y, y = l[k] := ⟨_, rfl⟩
      rw [← hy] at y0 y1
      obtain ⟨hy1, hy2, hy3⟩ := hok y (by rw [hy]; exact List.getElem_mem _)
      have HP : Hid (putM J.last (l.take (k + 1)) = putM1 (putM J.last (l.take k)) y) := by rw [hy]; exact putM_take _ _ _ hlt2
      obtain ⟨cn, hcn⟩ : ∃ cn : Nat, y.c = (cn : Int) := ⟨y.c.toNat, by omega⟩
      obtain ⟨w2, hw2⟩ : ∃ w2, w2 = wr.alloc (.cells #[.int .i64 y.c, .string y.d] 84) := ⟨_, rfl⟩
      have HW2 : Hid (wr.alloc (.cells #[.int .i64 y.c, .string y.d] 84) = w2) := hw2.symm
      have hb2 : Below wr.heap.size wr w2 := by rw [hw2]; exact (Below.refl _ wr).alloc (Nat.le_refl _) _
      have hbx : w2.heap[wr.heap.size]? = some (.cells #[.int .i64 y.c, .string y.d] 84 (0, 0)) := by rw [hw2]; exact block_new wr _
      have e0 : w2.cell? ⟨wr.heap.size, 0, none⟩ = some (.int .i64 y.c) := by rw [cell_of_row _ _ _ _ _ _ hbx]; rfl
      have e1 : w2.cell? ⟨wr.heap.size, 1, none⟩ = some (.string y.d) := by rw [cell_of_row _ _ _ _ _ _ hbx]; rfl
      have e5 : w2.cell? ⟨j, 5, none⟩ = some (.map (some mb)) := by
        obtain ⟨_, _, _, _, _, z5, _⟩ := (hx1.below hb2).cells
        exact z5
      have HC : Hid (w2.drew.cell? ⟨j, 5, none⟩ = some (.map (some mb)) ∧ w2.drew.cell? ⟨wr.heap.size, 0, none⟩ = some (.int .i64 y.c) ∧ w2.drew.cell? ⟨wr.heap.size, 1, none⟩ = some (.string y.d)) := ⟨e5, e0, e1⟩
      have hd2 : Below w2.heap.size w2 w2.drew := below_drew (Below.refl _ w2)
      have hmr := hm1.lt
      have HK : Hid (∀ w5, Below w2.heap.size w2.drew w5 → w5.cell? ⟨j, 5, none⟩ = some (.map (some mb)) ∧ w5.cell? ⟨wr.heap.size, 0, none⟩ = some (.int .i64 y.c) ∧ w5.cell? ⟨wr.heap.size, 1, none⟩ = some (.string y.d) ∧
          ∃ w6, (Instr.mapUpdate 99 (.map (some mb)) (.int .i64 y.c) (agB (padB y.d.data.toList))).run Tryz.prog w5 = .ok () w6 ∧ w6.cell? ⟨j, 5, none⟩ = some (.map (some mb)) ∧ w6.cell? ⟨wr.heap.size, 0, none⟩ = some (.int .i64 y.c) ∧ w6.cell? ⟨wr.heap.size, 1, none⟩ = some (.string y.d) ∧ JX w6 F j x p (.map (some mb)) S V J ∧ MapD w6 mb c (putM1 (putM J.last (l.take k)) y) ∧ Ch (fun k => k = mb) w w6) := fun w5 hb5 => by
        have hb25 : Below w2.heap.size w2 w5 := ⟨hb5.os, hb5.tape, hb5.output, hb5.size, hb5.block⟩
        have hbw5 : Below wr.heap.size wr w5 := hb2.trans (hb25.mono hb2.size)
        have hm5 : MapD w5 mb c (putM J.last (l.take k)) := hm1.of_heap (hbw5.block mb hmr)
        obtain ⟨w6, hr, hm6, hg6, hs6⟩ := hm5.store hc (i := cn) (by omega) (padB y.d.data.toList)
        have ch6 : Ch (fun k => k = mb) w5 w6 := ⟨hg6.os, hg6.tape, hg6.output, hg6.size, fun k hk hne => hg6.block k hk (fun e => hne (Option.some.inj e))⟩
        have hx5 := hx1.below hbw5
        have hx6 := hx5.reM ch6 hmF hjm
        have hbxm : wr.heap.size ≠ mb := by omega
        have hbl5 : wr.heap.size < w5.heap.size := Nat.lt_of_lt_of_le (block_lt hbx) hb25.size
        have hbx5 := (hb25.block _ (block_lt hbx)).trans hbx
        have hbx6 := (ch6.block wr.heap.size hbl5 hbxm).trans hbx5
        obtain ⟨_, _, _, _, _, z5, _⟩ := hx5.cells
        obtain ⟨_, _, _, _, _, z6, _⟩ := hx6.cells
        refine ⟨z5, by rw [cell_of_row _ _ _ _ _ _ hbx5]; rfl, by rw [cell_of_row _ _ _ _ _ _ hbx5]; rfl, w6, by rw [hcn]; exact hr, z6, by rw [cell_of_row _ _ _ _ _ _ hbx6]; rfl, by rw [cell_of_row _ _ _ _ _ _ hbx6]; rfl, hx6, ?_, (hch.then_below hbw5).trans (Gr.refl _ _ _) ch6⟩
        refine hm6.ext fun i hi => ?_
        unfold putM1
        rw [hcn, Int.toNat_natCast]
      subst hq
      obtain ⟨O, hO⟩ : ∃ O, O = o + k * 2 := ⟨_, rfl⟩
      rw [← hO] at y0 y1
      have hOs : o + k * 2 = O := hO.symm
      clear hx1 hm1 hch hve' hws hGb hy hcn hw2 hbx hb2 hd2 hO hlt2 hmr e0 e1 e5
      go_wp2_with (rw [HW2.out])
      go_region_held3 (fun W => W.cell? ⟨j, 5, none⟩ = some (.map (some mb)) ∧ W.cell? ⟨wr.heap.size, 0, none⟩ = some (.int .i64 y.c) ∧ W.cell? ⟨wr.heap.size, 1, none⟩ = some (.string y.d))
        (first
          | exact HC.out
          | exact HH5.out
          | exact HH6.out.1)
        (first
          | (go_at_call 96; (with_reducible refine (dataOf_any y.d _ hy3).mono ?_); rintro e w5 ⟨rfl, hb5⟩; obtain ⟨a0, a1, a2, w6, hr, a3, a4, a5, a6⟩ := HK.out w5 hb5; have HH5 := Lib.hid (And.intro a0 (And.intro a1 a2)); have HH6 := Lib.hid (And.intro (And.intro a3 (And.intro a4 a5)) a6); clear a0 a1 a2 a3 a4 a5 a6))
      all_goals
        go_wp2
        go_roundw
        case rel => exact ⟨k + 1, by omega, by go_num, HH6.out.2.1, by rw [HP.out]; exact HH6.out.2.2.1, HH6.out.2.2.2⟩
        case measure => simp only [RowKit.intOf]; omega
    · have hkL : k = L := by omega
      subst hkL
      obtain ⟨_, _, _, z3, z4, _⟩ := hx1.cells
      have f3 := block_free (o := 3) hx1.blk
      have f4 := block_free (o := 4) hx1.blk
      have hwn : IntKind.i64.wrap (J.next + 1) = J.next + 1 := by rw [IntKind.wrap_i64]; omega
      have hw1 : IntKind.i64.wrap (1 + (k : Int)) = 1 + (k : Int) := by rw [IntKind.wrap_i64]; omega
      have hwe : IntKind.i64.wrap (J.en + (1 + (k : Int))) = J.en + (1 + (k : Int)) := by rw [IntKind.wrap_i64]; omega
      have hch2 : Ch (fun z => z = j ∨ z = mb) w ((wr.setCell ⟨j, 3, none⟩ (.int .i64 (J.next + 1))).setCell ⟨j, 4, none⟩ (.int .i64 (J.en + (1 + (k : Int))))) := by
        have h1 : Ch (fun z => z = j ∨ z = mb) w wr := ⟨hch.os, hch.tape, hch.output, hch.size, fun z hz hn => hch.block z hz (fun e => hn (.inr e))⟩
        exact (h1.setCell (p := j) (.inl rfl) _ _).setCell (p := j) (.inl rfl) _ _
      have hchj : Ch (fun z => z = j) wr ((wr.setCell ⟨j, 3, none⟩ (.int .i64 (J.next + 1))).setCell ⟨j, 4, none⟩ (.int .i64 (J.en + (1 + (k : Int))))) := ((Ch.refl (fun z => z = j) wr).setCell (p := j) rfl _ _).setCell (p := j) rfl _ _
      have HE : Hid (JX ((wr.setCell ⟨j, 3, none⟩ (.int .i64 (J.next + 1))).setCell ⟨j, 4, none⟩ (.int .i64 (J.en + (1 + (k : Int))))) F j x p (.map (some mb)) S V (takeJ J l) ∧ MapD ((wr.setCell ⟨j, 3, none⟩ (.int .i64 (J.next + 1))).setCell ⟨j, 4, none⟩ (.int .i64 (J.en + (1 + (k : Int))))) mb c (putM J.last l) ∧ Ch (fun z => z = j ∨ z = mb) w ((wr.setCell ⟨j, 3, none⟩ (.int .i64 (J.next + 1))).setCell ⟨j, 4, none⟩ (.int .i64 (J.en + (1 + (k : Int)))))) := by
        refine ⟨⟨?_, ?_, hx1.nj, hx1.sok, hx1.good, fun z hz => by simpa using hx1.bd z hz⟩, ?_, hch2⟩
        · have := block_setCell (o := 4) (u := .int .i64 (J.en + (1 + (k : Int)))) (block_setCell (o := 3) (u := .int .i64 (J.next + 1)) hx1.blk)
          rw [HL.out] at this ⊢
          exact this
        · exact hx1.ext.of_heap hchj.size (fun z hz hFz => hchj.block z hz (fun e => hx1.nj (by rw [← e]; exact hFz)))
        · rw [HL.out, List.take_length] at hm1
          exact hm1.of_heap (hchj.block mb hm1.lt (fun e => hjm e.symm))
      clear hx1 hm1 hch hch2 hchj
      go_wp2
      go_end0
      exact ⟨rfl, HE.out⟩
end Go.Proofs.YtjippoejaieneaaGreat
