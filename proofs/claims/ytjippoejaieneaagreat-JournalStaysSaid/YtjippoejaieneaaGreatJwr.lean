/- A record is written. Conditions: a list is no longer than a machine holds. -/
import Derived.Test.YtjippoejaieneaaGreatJrb
import Derived.Deep.DeepCutAuto
import Derived.Deep.CutRange
import Derived.StillTailTactics
namespace Go.Proofs.YtjippoejaieneaaGreat
open Go.RowKit Go.Maps
set_option maxRecDepth 20000
set_option linter.unusedVariables false

def datL (l : List Wt) (i : Nat) : Bts := ((l[i]?).map fun x => x.d.data.toList).getD []
/-- the first steps of a record: its first block, and so many behind it -/
def recS (en next : Int) (l : List Wt) (k : Nat) : List Stp := .wr en (recB l) next :: (List.range k).map fun (i : Nat) => .wr (en + 1 + (i : Int)) (datL l i) next
theorem recS_succ (en next : Int) (l : List Wt) (k : Nat) : recS en next l (k + 1) = recS en next l k ++ [.wr (en + 1 + (k : Int)) (datL l k) next] := by
  unfold recS; rw [List.range_succ, List.map_append]; rfl
theorem go_stop {a r : List Stp} {s : Stp} {S : St} {V : Dv} (h : gone a S V = false) (q : gone [s] (runS a S V).1 (runS a S V).2 = true) : gone (a ++ ([s] ++ r)) S V = true ∧ runS (a ++ ([s] ++ r)) S V = runS [s] (runS a S V).1 (runS a S V).2 := by
  rw [gone_app, run_app, h]
  obtain ⟨g1, g2⟩ := gone_more (b := r) q
  rw [g1, g2]; exact ⟨rfl, rfl⟩
theorem go_on {a : List Stp} {s : Stp} {S : St} {V : Dv} (h : gone a S V = false) (q : gone [s] (runS a S V).1 (runS a S V).2 = false) : gone (a ++ [s]) S V = false ∧ runS (a ++ [s]) S V = runS [s] (runS a S V).1 (runS a S V).2 := by
  rw [gone_app, run_app, h, q]; exact ⟨rfl, rfl⟩
theorem recS_le (en next : Int) (l : List Wt) {k L : Nat} (h : k < L) : ∃ r, recS en next l L = recS en next l k ++ ([.wr (en + 1 + (k : Int)) (datL l k) next] ++ r) := by
  refine ⟨((List.range (L - (k + 1))).map fun i => k + 1 + i).map fun (i : Nat) => Stp.wr (en + 1 + (i : Int)) (datL l i) next, ?_⟩
  rw [← List.append_assoc, ← recS_succ]
  unfold recS
  rw [List.cons_append, ← List.map_append]
  congr 2
  have := List.range_add (n := k + 1) (m := L - (k + 1))
  rw [show k + 1 + (L - (k + 1)) = L by omega] at this
  exact this
theorem rec_step {en next : Int} {l : List Wt} {k L : Nat} {S : St} {V : Dv} (hgo : gone (recS en next l k) S V = false) (hk : k < L) {d : Bts} (hd : datL l k = d) :
    (gone [.wr (en + 1 + (k : Int)) d next] (runS (recS en next l k) S V).1 (runS (recS en next l k) S V).2 = true → gone (recS en next l L) S V = true ∧ runS (recS en next l L) S V = runS [.wr (en + 1 + (k : Int)) d next] (runS (recS en next l k) S V).1 (runS (recS en next l k) S V).2) ∧
    (gone [.wr (en + 1 + (k : Int)) d next] (runS (recS en next l k) S V).1 (runS (recS en next l k) S V).2 = false → gone (recS en next l (k + 1)) S V = false ∧ runS (recS en next l (k + 1)) S V = runS [.wr (en + 1 + (k : Int)) d next] (runS (recS en next l k) S V).1 (runS (recS en next l k) S V).2) := by
  subst hd
  refine ⟨fun q => ?_, fun q => ?_⟩
  · obtain ⟨r, hr⟩ := recS_le en next l hk
    rw [hr]; exact go_stop hgo q
  · rw [recS_succ]; exact go_on hgo q
theorem TX.ch {F : Nat → Prop} {w w' : World} {j x p : Nat} {mv : Value} {S : St} {V : Dv} {J : Jn} (h : TX F w w' j x p mv S V J) : Ch F w w' := by obtain ⟨_, _, _, c⟩ := h; exact c
set_option maxHeartbeats 4000000 in
theorem writeRec_any (F G : Nat → Prop) (j x p : Nat) (mv : Value) (S : St) (V : Dv) (J : Jn) (v : Value) (l : List Wt) (w : World) (h : JX w F j x p mv S V J) (hv : WV w G v l) (hG : ∀ k, G k → ¬ F k) (hl : l.length ≤ 4096) (hsz : ∀ y ∈ l, y.d.size ≤ 281474976710656)
    (he0 : 0 ≤ J.en) (he : J.en ≤ 8192) :
    Calls Tryz.prog 60 #[.pointer (some ⟨j, 0, none⟩), v] w (Does (recS J.en J.next l l.length) F w j x p mv S V J (.returned (.tuple #[]))) := by
  have hrb := recB_any G v l (w.drew) (hv.below (below_drew (Below.refl _ w))) hl
  have hrl := recB_len l
  have hd0 : Below w.heap.size w w.drew := below_drew (Below.refl _ w)
  obtain ⟨c0, c1, c2, c3, c4, c5, c6⟩ := h.cells
  have KR : Hid (Calls Tryz.prog 95 #[v] w.drew fun e w' => e = .returned (.string (ofL (recB l))) ∧ JX w' F j x p mv S V J ∧ Below w.heap.size w w' ∧ w'.cell? ⟨j, 4, none⟩ = some (.int .i64 J.en) ∧ w'.cell? ⟨j, 3, none⟩ = some (.int .i64 J.next)) := hrb.mono fun e w' q => by
    have hb := hd0.trans q.2
    have hx := h.below hb
    obtain ⟨_, _, _, d3, d4, _⟩ := hx.cells
    exact ⟨q.1, hx, hb, d4, d3⟩
  have KW : Hid (∀ W, JX W F j x p mv S V J → Calls Tryz.prog 90 #[.pointer (some ⟨j, 0, none⟩), .int .i64 J.en, .string (ofL (recB l)), .int .i64 J.next] W (Does [.wr J.en (recB l) J.next] F W j x p mv S V J (.returned (.tuple #[])))) := fun W hW => by
    have := jwrite_any F j x p mv S V J J.en (ofL (recB l)) J.next W hW (by rw [ofL_size, hrl]; omega)
    rwa [ofL_list] at this
  have HC : Hid (w.drew.cell? ⟨j, 4, none⟩ = some (.int .i64 J.en) ∧ w.drew.cell? ⟨j, 3, none⟩ = some (.int .i64 J.next)) := ⟨c4, c3⟩
  have H := Lib.hid h
  have HV := Lib.hid hv
  obtain ⟨q0, cap, hve, hlc, hws⟩ := hv
  obtain ⟨L, hL⟩ : ∃ L, L = l.length := ⟨_, rfl⟩
  rw [← hL] at hve hlc
  have HL := Lib.hid hL
  subst hve
  rw [← hL]
  have hL4 : L ≤ 4096 := by omega
  clear hrb hrl hd0 h c0 c1 c2 c5 c6 hws hl hL
  have HP : Hid (∀ w2, gone [.wr J.en (recB l) J.next] S V = true → TX F w w2 j x p mv (runS [.wr J.en (recB l) J.next] S V).1 (runS [.wr J.en (recB l) J.next] S V).2 J → Does (recS J.en J.next l L) F w j x p mv S V J (.returned (.tuple #[])) (.panicked [{ v := .iface 156 (.agg #[]), recovered := false }]) w2) := fun w2 q ht => by
    obtain ⟨g1, g2⟩ := gone_more (b := (List.range L).map fun (i : Nat) => Stp.wr (J.en + 1 + (i : Int)) (datL l i) J.next) q
    refine ⟨?_, ?_⟩
    · show _ = if gone ([Stp.wr J.en (recB l) J.next] ++ _) S V = true then pnc else _
      rw [g1]; rfl
    · show TX F w w2 j x p mv (runS ([Stp.wr J.en (recB l) J.next] ++ _) S V).1 (runS ([Stp.wr J.en (recB l) J.next] ++ _) S V).2 J
      rw [g2]; exact ht
  go_enter Tryz.func60, Tryz.ntmps60
  go_wp2_with (fail)
  go_cut [17] (fun z wx => TX F w wx j x p mv (runS [.wr J.en (recB l) J.next] S V).1 (runS [.wr J.en (recB l) J.next] S V).2 J ∧ gone [.wr J.en (recB l) J.next] S V = false)
  case first =>
    go_region_with ((first
        | (go_at_call 95; (with_reducible refine KR.out.mono ?_); rintro e w1 ⟨rfl, hx1, hb1, d4, d3⟩; have HX1 := Lib.hid (And.intro hx1 hb1); clear hx1 hb1)
        | (go_at_call 90; (with_reducible refine (KW.out _ HX1.out.1).mono ?_); intro e w2 hd2; by_cases q1 : gone [.wr J.en (recB l) J.next] S V = true; (obtain ⟨rfl, ht⟩ := hd2.no q1; refine And.intro rfl (HP.out _ q1 (TX.trans (Gr.refl _ _ _) (Ch.of_below HX1.out.2) ht))); (have q2 : gone [.wr J.en (recB l) J.next] S V = false := (by simpa using q1); obtain ⟨rfl, ht⟩ := hd2.yes q2; have HD2 : Hid (TX F w w2 j x p mv (runS [.wr J.en (recB l) J.next] S V).1 (runS [.wr J.en (recB l) J.next] S V).2 J) := (TX.trans (Gr.refl _ _ _) (Ch.of_below HX1.out.2) ht); clear hd2 ht))))
    all_goals
      go_wp2_with fail
      go_meet
      exact ⟨HD2.out, q2⟩
  case rest =>
    obtain ⟨ht, q1⟩ := hcut
    obtain ⟨F1, hx1, g1, ch1⟩ := ht
    have HX1 : Hid (TX F w wc j x p mv (runS (recS J.en J.next l 0) S V).1 (runS (recS J.en J.next l 0) S V).2 J ∧ gone (recS J.en J.next l 0) S V = false) := ⟨⟨F1, hx1, g1, ch1⟩, q1⟩
    clear hx1 g1 ch1 q1 KR KW HP HC
    go_wp2_with fail
    go_loopw [20] (fun i W => ∃ k : Nat, k ≤ L ∧ i = .int .i64 (k : Int) ∧ gone (recS J.en J.next l k) S V = false ∧ TX F w W j x p mv (runS (recS J.en J.next l k) S V).1 (runS (recS J.en J.next l k) S V).2 J) (fun i _ => L - (RowKit.intOf i).toNat)
    case atStart => exact ⟨0, Nat.zero_le _, rfl, HX1.out.2, HX1.out.1⟩
    case round =>
      obtain ⟨k, hk, rfl, hgo, ht⟩ := hrel
      by_cases hlt : k < L
      · have hki : (k : Int) < (L : Int) := by omega
        obtain ⟨F2, hx2, g2, ch2⟩ := ht
        have hv2 := HV.out.keep ch2 hG
        obtain ⟨q', cap', hve', _, hws⟩ := hv2
        have hq' : q0 = q' := by injection hve'
        subst hq'
        have hll : L = l.length := HL.out
        obtain ⟨b, o, hq, hGb, hbl, u0, u1⟩ := hws k (by omega)
        obtain ⟨y, hy⟩ : ∃ y, y = l[k]'(by omega) := ⟨_, rfl⟩
        rw [← hy] at u0 u1
        subst hq
        obtain ⟨O, hO⟩ : ∃ O, O = o + k * 2 := ⟨_, rfl⟩
        rw [← hO] at u0 u1
        have hOs : o + k * 2 = O := hO.symm
        have hysz : y.d.size ≤ 281474976710656 := hsz y (by rw [hy]; exact List.getElem_mem _)
        obtain ⟨_, _, _, d3, d4, _⟩ := hx2.cells
        have hdat : datL l k = y.d.data.toList := by unfold datL; rw [List.getElem?_eq_getElem (by omega), hy]; rfl
        obtain ⟨w2, hw2⟩ : ∃ w2, w2 = (wr.alloc (.cells #[.int .i64 y.c, .string y.d] 84)) := ⟨_, rfl⟩
        have HW2 : Hid (wr.alloc (.cells #[.int .i64 y.c, .string y.d] 84) = w2) := hw2.symm
        have hb2 : Below wr.heap.size wr w2 := by rw [hw2]; exact (Below.refl _ wr).alloc (Nat.le_refl _) _
        have hx3 : JX w2.drew F2 j x p mv _ _ J := hx2.below (hb2.trans (below_drew (Below.refl _ w2)))
        have hbx : w2.heap[wr.heap.size]? = some (.cells #[.int .i64 y.c, .string y.d] 84 (0, 0)) := by rw [hw2]; exact block_new wr _
        have e1 : w2.cell? ⟨wr.heap.size, 1, none⟩ = some (.string y.d) := by rw [cell_of_row _ _ _ _ _ _ hbx]; rfl
        have e3 := cell_below d3 hb2
        have e4 := cell_below d4 hb2
        have KW := Lib.hid (jwrite_any F2 j x p mv _ _ J (J.en + 1 + (k : Int)) y.d J.next w2.drew hx3 hysz)
        have hj1 : IntKind.i64.wrap (J.en + 1) = J.en + 1 := by rw [IntKind.wrap_i64]; omega
        have hj2 : IntKind.i64.wrap (J.en + 1 + (k : Int)) = J.en + 1 + (k : Int) := by rw [IntKind.wrap_i64]; omega
        obtain ⟨hs1, hs2⟩ := rec_step hgo hlt hdat
        have HNO : Hid (∀ w3, gone [.wr (J.en + 1 + (k : Int)) y.d.data.toList J.next] (runS (recS J.en J.next l k) S V).1 (runS (recS J.en J.next l k) S V).2 = true → TX F2 w2.drew w3 j x p mv (runS [.wr (J.en + 1 + (k : Int)) y.d.data.toList J.next] (runS (recS J.en J.next l k) S V).1 (runS (recS J.en J.next l k) S V).2).1 (runS [.wr (J.en + 1 + (k : Int)) y.d.data.toList J.next] (runS (recS J.en J.next l k) S V).1 (runS (recS J.en J.next l k) S V).2).2 J → Does (recS J.en J.next l L) F w j x p mv S V J (.returned (.tuple #[])) (.panicked [{ v := .iface 156 (.agg #[]), recovered := false }]) w3) := fun w3 q ht => by
          obtain ⟨z1, z2⟩ := hs1 q
          exact ⟨by rw [z1]; rfl, by rw [z2]; exact TX.trans g2 ch2 (TX.trans (Gr.refl _ _ _) (Ch.of_below (hb2.trans (below_drew (Below.refl _ w2)))) ht)⟩
        have HYE : Hid (∀ w3, gone [.wr (J.en + 1 + (k : Int)) y.d.data.toList J.next] (runS (recS J.en J.next l k) S V).1 (runS (recS J.en J.next l k) S V).2 = false → TX F2 w2.drew w3 j x p mv (runS [.wr (J.en + 1 + (k : Int)) y.d.data.toList J.next] (runS (recS J.en J.next l k) S V).1 (runS (recS J.en J.next l k) S V).2).1 (runS [.wr (J.en + 1 + (k : Int)) y.d.data.toList J.next] (runS (recS J.en J.next l k) S V).1 (runS (recS J.en J.next l k) S V).2).2 J → gone (recS J.en J.next l (k + 1)) S V = false ∧ TX F w w3 j x p mv (runS (recS J.en J.next l (k + 1)) S V).1 (runS (recS J.en J.next l (k + 1)) S V).2 J) := fun w3 q ht => by
          obtain ⟨z1, z2⟩ := hs2 q
          exact ⟨z1, by rw [z2]; exact TX.trans g2 ch2 (TX.trans (Gr.refl _ _ _) (Ch.of_below (hb2.trans (below_drew (Below.refl _ w2)))) ht)⟩
        clear hx2 g2 ch2 hve' hws hy hO hysz hx3 hbx hb2 hgo hw2 d3 d4 hdat hs1 hs2 hll
        go_wp2_with (rw [HW2.out])
        go_still_tail 14, (by kernel_rfl)
        (try refine wpStill_nil ?_)
        change wpList _ _ _ _ _ w2.drew
        go_wp2_with (go_at_call 90; (with_reducible refine KW.out.mono ?_); intro e w3 hd2; by_cases q1 : gone [.wr (J.en + 1 + (k : Int)) y.d.data.toList J.next] (runS (recS J.en J.next l k) S V).1 (runS (recS J.en J.next l k) S V).2 = true; (obtain ⟨rfl, ht⟩ := hd2.no q1; refine And.intro rfl (HNO.out _ q1 ht)); (have q2 : gone [.wr (J.en + 1 + (k : Int)) y.d.data.toList J.next] (runS (recS J.en J.next l k) S V).1 (runS (recS J.en J.next l k) S V).2 = false := (by simpa using q1); obtain ⟨rfl, ht⟩ := hd2.yes q2; have HD2 := Lib.hid (HYE.out _ q2 ht); clear hd2 ht))
        go_roundw
        case rel => exact ⟨k + 1, by omega, by go_num, HD2.out.1, HD2.out.2⟩
        case measure => simp only [RowKit.intOf]; omega
      · have hkL : k = L := by omega
        subst hkL
        go_wp2
        go_end0
        exact ⟨by rw [hgo]; rfl, ht⟩
end Go.Proofs.YtjippoejaieneaaGreat
