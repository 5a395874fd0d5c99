/- What the records write is laid home. Conditions: ints are within 64 bits. -/
import Derived.Test.YtjippoejaieneaaGreatJwr
import Derived.Test.YtjippoejaieneaaGreatJks
namespace Go.Proofs.YtjippoejaieneaaGreat
open Go.RowKit Go.Maps
set_option maxRecDepth 20000
set_option linter.unusedVariables false

/-- the first steps of laying home: a barrier, and so many homes -/
def homS (area : Nat) (M : Nat → Option Bts) (ks : List Nat) (k : Nat) : List Stp := .bar :: (ks.take k).map fun (c : Nat) => .wr ((area : Int) + (c : Int)) ((M c).getD zD) 0
def homeS (area : Nat) (M : Nat → Option Bts) (ks : List Nat) (h n : Int) : List Stp := homS area M ks ks.length ++ [.bar, headW (h + 1) n, .bar]
theorem homS_succ (area : Nat) (M : Nat → Option Bts) (ks : List Nat) (k : Nat) (hk : k < ks.length) : homS area M ks (k + 1) = homS area M ks k ++ [.wr ((area : Int) + (ks[k] : Int)) ((M ks[k]).getD zD) 0] := by
  unfold homS
  rw [List.take_add_one, List.map_append, List.getElem?_eq_getElem hk]
  rfl
theorem homS_le (area : Nat) (M : Nat → Option Bts) (ks : List Nat) (h n : Int) {k : Nat} (hk : k < ks.length) : ∃ r, homeS area M ks h n = homS area M ks k ++ ([.wr ((area : Int) + (ks[k] : Int)) ((M ks[k]).getD zD) 0] ++ r) := by
  refine ⟨((ks.drop (k + 1)).map fun (c : Nat) => .wr ((area : Int) + (c : Int)) ((M c).getD zD) 0) ++ [.bar, headW (h + 1) n, .bar], ?_⟩
  rw [← List.append_assoc, ← homS_succ area M ks k hk, ← List.append_assoc]
  unfold homeS homS
  rw [List.cons_append, List.cons_append, List.cons_append]
  congr 1
  rw [← List.map_append, List.take_append_drop, List.take_length]
theorem hom_step {area : Nat} {M : Nat → Option Bts} {ks : List Nat} {h n : Int} {k : Nat} {S : St} {V : Dv} (hgo : gone (homS area M ks k) S V = false) (hk : k < ks.length) {d : Bts} {i : Int} (hi : i = (area : Int) + (ks[k] : Int)) (hd : (M ks[k]).getD zD = d) :
    (gone [.wr i d 0] (runS (homS area M ks k) S V).1 (runS (homS area M ks k) S V).2 = true → gone (homeS area M ks h n) S V = true ∧ runS (homeS area M ks h n) S V = runS [.wr i d 0] (runS (homS area M ks k) S V).1 (runS (homS area M ks k) S V).2) ∧
    (gone [.wr i d 0] (runS (homS area M ks k) S V).1 (runS (homS area M ks k) S V).2 = false → gone (homS area M ks (k + 1)) S V = false ∧ runS (homS area M ks (k + 1)) S V = runS [.wr i d 0] (runS (homS area M ks k) S V).1 (runS (homS area M ks k) S V).2) := by
  subst hd hi
  refine ⟨fun q => ?_, fun q => ?_⟩
  · obtain ⟨r, hr⟩ := homS_le area M ks h n hk
    rw [hr]; exact go_stop hgo q
  · rw [homS_succ _ _ _ _ hk]; exact go_on hgo q
/-- a row of numbers that is only read -/
def NV (w : World) (base : Nat) (v : Value) (l : List Nat) : Prop :=
  ∃ q cap, v = .slice q l.length cap ∧ l.length ≤ cap ∧ ∀ i (hi : i < l.length), ∃ g, q = some ⟨g, 0, none⟩ ∧ base ≤ g ∧ g < w.heap.size ∧ w.cell? ⟨g, i, none⟩ = some (.int .i64 (l[i] : Int))
theorem NV.keep {w w' : World} {F : Nat → Prop} {base : Nat} {v : Value} {l : List Nat} (h : NV w base v l) (c : Ch F w w') (hn : ∀ k, base ≤ k → k < w.heap.size → ¬ F k) : NV w' base v l := by
  obtain ⟨q, cap, h1, h2, h3⟩ := h
  refine ⟨q, cap, h1, h2, fun i hi => ?_⟩
  obtain ⟨g, e1, e2, e3, e4⟩ := h3 i hi
  have hb := c.block g e3 (hn g e2 e3)
  refine ⟨g, e1, e2, Nat.lt_of_lt_of_le e3 c.size, ?_⟩
  rw [← e4]; unfold World.cell?; simp only [hb]
theorem NV.of_row {w : World} {base : Nat} {v : Value} {l : List Nat} {L : List Int} (hL : L = l.map fun i : Nat => (i : Int)) (h : w.ownsRow base 3 1 v L.length (L.map cellI)) : NV w base v l := by
  obtain ⟨hl, h | ⟨g, cap, cur, rfl, hb, hg, hc, hm, hs, ht⟩⟩ := h
  · obtain ⟨rfl, h0⟩ := h
    have : l.length = 0 := by rw [hL] at h0; simpa using h0
    exact ⟨none, 0, by rw [this], by omega, fun i hi => by omega⟩
  · have e : L.length = l.length := by rw [hL]; simp
    refine ⟨_, cap, by rw [e], by rw [← e]; exact hc, fun i hi => ⟨g, rfl, hb, block_lt hg, ?_⟩⟩
    rw [cell_of_row _ _ _ _ _ _ hg]
    have h1 : (cur.toList.take (L.length * 1))[i]? = (L.map cellI)[i]? := by rw [ht]
    rw [List.getElem?_take_of_lt (by omega)] at h1
    have h2 : cur[i]? = cur.toList[i]? := by simp
    rw [h2, h1, hL]
    simp [cellI, List.getElem?_eq_getElem hi]
/-- what laying home leaves -/
def LayPost (F : Nat → Prop) (w : World) (j x p : Nat) (mv : Value) (S : St) (V : Dv) (J : Jn) (l : List Stp) (h n : Int) (e : Ending) (w' : World) : Prop :=
  (gone l S V = true ∧ e = .panicked [{ v := .iface 156 (.agg #[]), recovered := false }] ∧ TX F w w' j x p mv (runS l S V).1 (runS l S V).2 J) ∨
  (gone l S V = false ∧ e = .returned (.tuple #[]) ∧ ∃ F' m, JX w' F' j x p (.map (some m)) (runS l S V).1 (runS l S V).2 (J0 h n J) ∧ (∀ c, MapD w' m c fun _ => none) ∧ Gr F F' w w' ∧ Ch (fun k => F k ∨ k = j) w w' ∧ w.heap.size ≤ m ∧ m < w'.heap.size ∧ ¬ F' m)
theorem nF1 {F F1 : Nat → Prop} {w w1 : World} {m : Nat} (g : Gr F F1 w w1) (h : ¬ F m) (hm : m < w.heap.size) : ¬ F1 m := fun z => (g m z).elim h (fun q => by omega)
set_option maxHeartbeats 8000000 in
theorem layHome_any (F : Nat → Prop) (j x p mb c : Nat) (S : St) (V : Dv) (J : Jn) (n : Int) (w : World) (hx : JX w F j x p (.map (some mb)) S V J) (hm : MapD w mb c J.last) (hc : c ≤ 4096) (hmF : ¬ F mb) (hlast : ∀ i d, J.last i = some d → d.length = 116)
    (ha : J.area ≤ 4096) (hh0 : 0 ≤ J.head) (hh : J.head ≤ 4611686018427387904) :
    Calls Tryz.prog 94 #[.pointer (some ⟨j, 0, none⟩), .int .i64 n] w (LayPost F w j x p (.map (some mb)) S V J (homeS J.area J.last (keysN c J.last) J.head n) (J.head + 1) n) := by
  obtain ⟨ks, hks⟩ : ∃ ks, ks = keysN c J.last := ⟨_, rfl⟩
  have hksm : ∀ i ∈ ks, i < c := fun i hi => by rw [hks] at hi; exact List.mem_range.1 (List.mem_filter.1 hi).1
  have hkc : ks.length ≤ 4096 := by rw [hks]; exact Nat.le_trans (List.length_filter_le _ _) (by simp; exact hc)
  have hkL : keysL c J.last = ks.map fun i : Nat => (i : Int) := by rw [hks]; rfl
  rw [← hks]
  obtain ⟨L, hL⟩ : ∃ L, L = homeS J.area J.last ks J.head n := ⟨_, rfl⟩
  rw [← hL]
  have KB := Lib.hid (jbar_any F j x p (.map (some mb)) S V J w hx)
  have HX := Lib.hid hx
  have HM := Lib.hid hm
  have HN0 : Hid (∀ w1, gone [.bar] S V = true → TX F w w1 j x p (.map (some mb)) (runS [.bar] S V).1 (runS [.bar] S V).2 J → LayPost F w j x p (.map (some mb)) S V J L (J.head + 1) n (.panicked [{ v := .iface 156 (.agg #[]), recovered := false }]) w1) := fun w1 q ht => by
    obtain ⟨r, hr⟩ : ∃ r, L = [.bar] ++ r := ⟨_, hL⟩
    obtain ⟨z1, z2⟩ := gone_more (b := r) q
    exact .inl (by rw [hr, z1, z2]; exact ⟨rfl, rfl, ht⟩)
  have hml := hm.lt
  have HLE := Lib.hid hL
  have HND : Hid (∀ w1, TX F w w1 j x p (.map (some mb)) (runS [.bar] S V).1 (runS [.bar] S V).2 J → ∃ F1, JX w1 F1 j x p (.map (some mb)) (runS [.bar] S V).1 (runS [.bar] S V).2 J ∧ Gr F F1 w w1 ∧ Ch F w w1 ∧ MapD w1 mb c J.last ∧ ¬ F1 mb ∧ w1.cell? ⟨j, 5, none⟩ = some (.map (some mb))) := fun w1 ht => by
    obtain ⟨F1, h1, g1, c1⟩ := ht
    obtain ⟨_, _, _, _, _, x5, _⟩ := h1.cells
    exact ⟨F1, h1, g1, c1, hm.of_heap (c1.block mb hm.lt hmF), nF1 g1 hmF hm.lt, x5⟩
  clear hx hm hks hL
  go_enter Tryz.func94, Tryz.ntmps94
  go_wp2_with (first
    | (go_at_call 65; (with_reducible refine KB.out.mono ?_); intro e w1 hd1; by_cases q1 : gone [.bar] S V = true; (obtain ⟨rfl, ht⟩ := hd1.no q1; refine And.intro rfl (HN0.out _ q1 ht)); (have q2 : gone [.bar] S V = false := (by simpa using q1); obtain ⟨rfl, ht⟩ := hd1.yes q2; obtain ⟨F1, hx1, g1, ch1, hm1, hmF1, x5⟩ := HND.out _ ht; have HX1 := Lib.hid (And.intro hx1 (And.intro g1 (And.intro ch1 (And.intro hm1 hmF1)))); clear hd1 ht q1 hx1 g1 ch1 hm1 hmF1))
    | (go_at_call 120; refine (keys_any _ _).mono ?_; rintro e w2 ⟨rfl, rfl⟩)
    | (go_at_call 119; (with_reducible refine (sorted_any _ mb c J.last HX1.out.2.2.2.1 hc).mono ?_); rintro e w3 ⟨v, rfl, hrow, hb3⟩; have hnv := NV.of_row hkL hrow; have HNV := Lib.hid (And.intro hnv hb3); obtain ⟨q0, cap, hve, hlc, _⟩ := hnv; subst hve; clear hrow hb3))
  have H0 : Hid (gone (homS J.area J.last ks 0) S V = false ∧ TX F1 w3 w3 j x p (.map (some mb)) (runS (homS J.area J.last ks 0) S V).1 (runS (homS J.area J.last ks 0) S V).2 J) := ⟨q2, F1, HX1.out.1.below HNV.out.2, Gr.refl _ _ _, Ch.of_below (Below.refl _ w3)⟩
  clear KB HN0 HND x5 hlc q2
  go_loopw [16] (fun i W => ∃ k : Nat, k ≤ ks.length ∧ i = .int .i64 (k : Int) ∧ gone (homS J.area J.last ks k) S V = false ∧ TX F1 w3 W j x p (.map (some mb)) (runS (homS J.area J.last ks k) S V).1 (runS (homS J.area J.last ks k) S V).2 J) (fun i _ => ks.length - (RowKit.intOf i).toNat)
  case atStart => exact ⟨0, Nat.zero_le _, rfl, H0.out⟩
  case round =>
    obtain ⟨k, hk, rfl, hgo, ht⟩ := hrel
    by_cases hlt : k < ks.length
    · have hki : (k : Int) < (ks.length : Int) := by omega
      obtain ⟨F2, hx2, g2, ch2⟩ := ht
      have hv2 := HNV.out.1.keep ch2 (fun z hz _ hF => by have := HX1.out.1.bd z hF; omega)
      obtain ⟨q', cap', hve', _, hws⟩ := hv2
      have hq' : q0 = q' := by injection hve'
      subst hq'
      obtain ⟨g, hq, hg1, hg2, u0⟩ := hws k hlt
      subst hq
      have hc1 := hksm _ (List.getElem_mem hlt)
      obtain ⟨cc, hcc⟩ : ∃ cc, cc = ks[k] := ⟨_, rfl⟩
      rw [← hcc] at u0 hc1
      have hmw : MapD wr mb c J.last := HX1.out.2.2.2.1.of_heap ((ch2.block mb (Nat.lt_of_lt_of_le HX1.out.2.2.2.1.lt HNV.out.2.size) HX1.out.2.2.2.2).trans (HNV.out.2.block mb HX1.out.2.2.2.1.lt))
      have hlk := (hmw.look hc hc1).1
      obtain ⟨_, y1, _, _, _, y5, _⟩ := hx2.cells
      obtain ⟨D, hD⟩ : ∃ D, D = (J.last cc).getD zD := ⟨_, rfl⟩
      have hDl : D.length = 116 := by
        rw [hD]; cases hz : J.last cc with
        | none => rfl
        | some d => exact hlast cc d hz
      rw [← hD] at hlk
      have HCC := Lib.hid hcc
      obtain ⟨hs1, hs2⟩ := hom_step (h := J.head) (n := n) hgo hlt (d := D) (i := (J.area : Int) + (cc : Int)) (by rw [hcc]) (by rw [hD, hcc])
      obtain ⟨w4, hw4⟩ : ∃ w4, w4 = (wr.alloc (.cells Tryz.zeroCells104 104)).setRow wr.heap.size (D.map cellB).toArray := ⟨_, rfl⟩
      have hA0 := Ar4.made wr
      have hA4 : Ar4 w4 wr.heap.size D := by rw [hw4]; exact hA0.set
      have hb4 : Below wr.heap.size wr w4 := by rw [hw4]; exact below_setRow ((Below.refl _ wr).alloc (Nat.le_refl _) _) (Nat.le_refl _) _
      have HW4 : Hid ((wr.alloc (.cells Tryz.zeroCells104 104)).setRow wr.heap.size (D.map cellB).toArray = w4) := hw4.symm
      have HA0 := Lib.hid hA0
      have hcv := hA4.string (W := w4.drew) 116 116 (by omega) rfl
      rw [List.take_of_length_le (by omega)] at hcv
      have y1' := cell_below y1 hb4
      have hx4 : JX w4.drew F2 j x p (.map (some mb)) _ _ J := hx2.below (hb4.trans (below_drew (Below.refl _ w4)))
      have KW := jwrite_any F2 j x p (.map (some mb)) _ _ J ((J.area : Int) + (cc : Int)) (ofL D) 0 w4.drew hx4 (by rw [ofL_size]; omega)
      rw [ofL_list] at KW
      have HKW := Lib.hid KW
      have hwi : IntKind.i64.wrap ((J.area : Int) + (cc : Int)) = (J.area : Int) + (cc : Int) := by rw [IntKind.wrap_i64]; omega
      obtain ⟨R2, hR2⟩ : ∃ R, R = runS (homS J.area J.last ks k) S V := ⟨_, rfl⟩
      rw [← hR2] at hs1 hs2 hx4 HKW
      have HNO : Hid (∀ w5, gone [.wr ((J.area : Int) + (cc : Int)) D 0] R2.1 R2.2 = true → TX F2 w4.drew w5 j x p (.map (some mb)) (runS [.wr ((J.area : Int) + (cc : Int)) D 0] R2.1 R2.2).1 (runS [.wr ((J.area : Int) + (cc : Int)) D 0] R2.1 R2.2).2 J → LayPost F w j x p (.map (some mb)) S V J L (J.head + 1) n (.panicked [{ v := .iface 156 (.agg #[]), recovered := false }]) w5) := fun w5 q ht => by
        obtain ⟨z1, z2⟩ := hs1 q
        refine .inl ?_
        rw [HLE.out, z1, z2]
        refine ⟨rfl, rfl, TX.trans HX1.out.2.1 HX1.out.2.2.1 (TX.trans (Gr.refl _ _ _) (Ch.of_below HNV.out.2) (TX.trans g2 ch2 (TX.trans (Gr.refl _ _ _) (Ch.of_below (hb4.trans (below_drew (Below.refl _ w4)))) ht)))⟩
      have HYE : Hid (∀ w5, gone [.wr ((J.area : Int) + (cc : Int)) D 0] R2.1 R2.2 = false → TX F2 w4.drew w5 j x p (.map (some mb)) (runS [.wr ((J.area : Int) + (cc : Int)) D 0] R2.1 R2.2).1 (runS [.wr ((J.area : Int) + (cc : Int)) D 0] R2.1 R2.2).2 J → gone (homS J.area J.last ks (k + 1)) S V = false ∧ TX F1 w3 w5 j x p (.map (some mb)) (runS (homS J.area J.last ks (k + 1)) S V).1 (runS (homS J.area J.last ks (k + 1)) S V).2 J) := fun w5 q ht => by
        obtain ⟨z1, z2⟩ := hs2 q
        exact ⟨z1, by rw [z2]; exact TX.trans g2 ch2 (TX.trans (Gr.refl _ _ _) (Ch.of_below (hb4.trans (below_drew (Below.refl _ w4)))) ht)⟩
      clear hg1 hg2 hve' hws hx2 g2 ch2 hmw hD hgo hw4 hA0 hcc hs1 hs2 hx4 KW hR2 y1
      go_wp2_with (first
        | (refine wpList_st4 rfl (.tmp 6) (.tmp 25) rfl wr.heap.size rfl _ _ rfl HA0.out (by simp) hDl ?_; rw [HW4.out]))
      go_still_tail 9, (by kernel_rfl)
      (try refine wpStill_nil ?_)
      change wpList _ _ _ _ _ w4.drew
      go_wp2_with (go_at_call 90; (with_reducible refine HKW.out.mono ?_); intro e w5 hd2; by_cases q1 : gone [.wr ((J.area : Int) + (cc : Int)) D 0] R2.1 R2.2 = true; (obtain ⟨rfl, ht⟩ := hd2.no q1; refine And.intro rfl (HNO.out _ q1 ht)); (have q2 : gone [.wr ((J.area : Int) + (cc : Int)) D 0] R2.1 R2.2 = false := (by simpa using q1); obtain ⟨rfl, ht⟩ := hd2.yes q2; have HD2 := Lib.hid (HYE.out _ q2 ht); clear hd2 ht))
      go_roundw
      case rel => exact ⟨k + 1, by omega, by go_num, HD2.out⟩
      case measure => simp only [RowKit.intOf]; omega
    · have hkL2 : k = ks.length := by omega
      subst hkL2
      obtain ⟨F2, hx2, g2, ch2⟩ := ht
      obtain ⟨R2, hR2⟩ : ∃ R, R = runS (homS J.area J.last ks ks.length) S V := ⟨_, rfl⟩
      rw [← hR2] at hx2
      obtain ⟨A, hA⟩ : ∃ A, A = homS J.area J.last ks ks.length := ⟨_, rfl⟩
      obtain ⟨s2, hs2⟩ : ∃ s, s = headW (J.head + 1) n := ⟨_, rfl⟩
      have hLA : L = A ++ ([.bar] ++ ([s2] ++ ([.bar] ++ []))) := by rw [HLE.out, hA, hs2]; rfl
      rw [← hA] at hgo hR2
      have e0 : gone A S V = false ∧ runS A S V = R2 := ⟨hgo, hR2.symm⟩
      obtain ⟨R3, hR3⟩ : ∃ R, R = runS [.bar] R2.1 R2.2 := ⟨_, rfl⟩
      obtain ⟨R4, hR4⟩ : ∃ R, R = runS [s2] R3.1 R3.2 := ⟨_, rfl⟩
      obtain ⟨R5, hR5⟩ : ∃ R, R = runS [.bar] R4.1 R4.2 := ⟨_, rfl⟩
      have hst1 : gone [.bar] R2.1 R2.2 = true → gone L S V = true ∧ runS L S V = R3 := fun q => by
        rw [hLA, hR3, ← e0.2]; exact go_stop e0.1 (by rw [e0.2]; exact q)
      have hon1 : gone [.bar] R2.1 R2.2 = false → gone (A ++ [.bar]) S V = false ∧ runS (A ++ [.bar]) S V = R3 := fun q => by
        rw [hR3, ← e0.2]; exact go_on e0.1 (by rw [e0.2]; exact q)
      have hst2 : gone [.bar] R2.1 R2.2 = false → gone [s2] R3.1 R3.2 = true → gone L S V = true ∧ runS L S V = R4 := fun q0 q => by
        obtain ⟨z1, z2⟩ := hon1 q0
        rw [hLA, ← List.append_assoc, hR4, ← z2]; exact go_stop z1 (by rw [z2]; exact q)
      have hon2 : gone [.bar] R2.1 R2.2 = false → gone [s2] R3.1 R3.2 = false → gone ((A ++ [.bar]) ++ [s2]) S V = false ∧ runS ((A ++ [.bar]) ++ [s2]) S V = R4 := fun q0 q => by
        obtain ⟨z1, z2⟩ := hon1 q0
        rw [hR4, ← z2]; exact go_on z1 (by rw [z2]; exact q)
      have hst3 : gone [.bar] R2.1 R2.2 = false → gone [s2] R3.1 R3.2 = false → gone [.bar] R4.1 R4.2 = true → gone L S V = true ∧ runS L S V = R5 := fun q0 q1 q => by
        obtain ⟨z1, z2⟩ := hon2 q0 q1
        rw [hLA, ← List.append_assoc, ← List.append_assoc, hR5, ← z2]; exact go_stop z1 (by rw [z2]; exact q)
      have hon3 : gone [.bar] R2.1 R2.2 = false → gone [s2] R3.1 R3.2 = false → gone [.bar] R4.1 R4.2 = false → gone L S V = false ∧ runS L S V = R5 := fun q0 q1 q => by
        obtain ⟨z1, z2⟩ := hon2 q0 q1
        have e : L = ((A ++ [.bar]) ++ [s2]) ++ [.bar] := by rw [hLA]; simp
        rw [e, hR5, ← z2]; exact go_on z1 (by rw [z2]; exact q)
      have hbase : ∀ w', TX F2 wr w' j x p (.map (some mb)) R3.1 R3.2 J → True := fun _ _ => trivial
      have KB1 := Lib.hid (jbar_any F2 j x p (.map (some mb)) _ _ J wr hx2)
      have HTW : Hid (∀ (F3 : Nat → Prop) (w4 w5 : World) (R : St × Dv), Gr F2 F3 wr w4 → Ch F2 wr w4 → TX F3 w4 w5 j x p (.map (some mb)) R.1 R.2 J → TX F w w5 j x p (.map (some mb)) R.1 R.2 J) := fun F3 w4 w5 R g4 c4 ht =>
        TX.trans HX1.out.2.1 HX1.out.2.2.1 (TX.trans (Gr.refl _ _ _) (Ch.of_below HNV.out.2) (TX.trans g2 ch2 (TX.trans g4 c4 ht)))
      have HS := Lib.hid (And.intro hst1 (And.intro hst2 (And.intro hst3 hon3)))
      have KH : Hid (∀ F3 w4, JX w4 F3 j x p (.map (some mb)) R3.1 R3.2 J → Calls Tryz.prog 89 #[.pointer (some ⟨j, 0, none⟩), .int .i64 (J.head + 1), .int .i64 n] w4 (Does [s2] F3 w4 j x p (.map (some mb)) R3.1 R3.2 J (.returned (.tuple #[])))) := fun F3 w4 h4 => by
        rw [hs2]; exact jhead_any F3 j x p _ _ _ J (J.head + 1) n w4 h4 (by omega)
      have KB2 : Hid (∀ F3 w4, JX w4 F3 j x p (.map (some mb)) R4.1 R4.2 J → Calls Tryz.prog 65 #[.pointer (some ⟨j, 0, none⟩)] w4 (Does [.bar] F3 w4 j x p (.map (some mb)) R4.1 R4.2 J (.returned (.tuple #[])))) := fun F3 w4 h4 => jbar_any F3 j x p _ _ _ J w4 h4
      have HR : Hid (runS [.bar] R2.1 R2.2 = R3 ∧ runS [s2] R3.1 R3.2 = R4 ∧ runS [.bar] R4.1 R4.2 = R5) := ⟨hR3.symm, hR4.symm, hR5.symm⟩
      have hwh : IntKind.i64.wrap (J.head + 1) = J.head + 1 := by rw [IntKind.wrap_i64]; omega
      clear hst1 hon1 hst2 hon2 hst3 hon3 hR2 hR3 hR4 hR5 hA hs2 hLA e0 hx2 g2 ch2 hgo hbase hk hlt
      go_wp2_with (first
        | (go_at_call 65; (with_reducible refine KB1.out.mono ?_); intro e w4 hd1; by_cases q1 : gone [.bar] R2.1 R2.2 = true; (obtain ⟨rfl, ht⟩ := hd1.no q1; refine And.intro rfl (.inl (by rw [(HS.out.1 q1).1, (HS.out.1 q1).2, ← HR.out.1]; exact ⟨rfl, rfl, HTW.out F2 wr w4 _ (Gr.refl _ _ _) (Ch.of_below (Below.refl _ wr)) ht⟩))); (have q2 : gone [.bar] R2.1 R2.2 = false := (by simpa using q1); obtain ⟨rfl, ht⟩ := hd1.yes q2; rw [HR.out.1] at ht; obtain ⟨F3, h4, g4, c4⟩ := ht; obtain ⟨_, _, z2, _⟩ := h4.cells; have H4 := Lib.hid (And.intro h4 (And.intro g4 c4)); clear hd1 h4 g4 c4))
        | (go_at_call 89; (with_reducible refine (KH.out _ _ H4.out.1).mono ?_); intro e w5 hd1; by_cases q3 : gone [s2] R3.1 R3.2 = true; (obtain ⟨rfl, ht⟩ := hd1.no q3; refine And.intro rfl (.inl (by rw [(HS.out.2.1 q2 q3).1, (HS.out.2.1 q2 q3).2, ← HR.out.2.1]; exact ⟨rfl, rfl, HTW.out F3 w4 w5 _ H4.out.2.1 H4.out.2.2 ht⟩))); (have q4 : gone [s2] R3.1 R3.2 = false := (by simpa using q3); obtain ⟨rfl, ht⟩ := hd1.yes q4; rw [HR.out.2.1] at ht; obtain ⟨F4, h5, g5, c5⟩ := ht; obtain ⟨_, _, z3, _⟩ := h5.cells; have H5 := Lib.hid (And.intro h5 (And.intro g5 c5)); clear hd1 h5 g5 c5))
        | (go_at_call 65; (with_reducible refine (KB2.out _ _ H5.out.1).mono ?_); intro e w6 hd1; by_cases q5 : gone [.bar] R4.1 R4.2 = true; (obtain ⟨rfl, ht⟩ := hd1.no q5; refine And.intro rfl (.inl (by rw [(HS.out.2.2.1 q2 q4 q5).1, (HS.out.2.2.1 q2 q4 q5).2, ← HR.out.2.2]; exact ⟨rfl, rfl, HTW.out F3 w4 w6 _ H4.out.2.1 H4.out.2.2 (TX.trans H5.out.2.1 H5.out.2.2 ht)⟩))); (have q6 : gone [.bar] R4.1 R4.2 = false := (by simpa using q5); obtain ⟨rfl, ht⟩ := hd1.yes q6; rw [HR.out.2.2] at ht; obtain ⟨F6, h6, g6, c6⟩ := HTW.out F3 w4 w6 _ H4.out.2.1 H4.out.2.2 (TX.trans H5.out.2.1 H5.out.2.2 ht); obtain ⟨_, _, z4, _⟩ := h6.cells; have H6 := Lib.hid (And.intro h6 (And.intro g6 c6)); clear hd1 ht h6 g6 c6))
        | (go_at_call 88; refine (begin_any F6 j x p _ _ _ J (J.head + 1) n _ H6.out.1).mono ?_; rintro e w7 ⟨rfl, h7, m7, c7⟩; have H7 := Lib.hid (And.intro h7 (And.intro m7 c7)); clear h7 m7 c7))
      go_end0
      obtain ⟨h7, m7, c7⟩ := H7.out
      obtain ⟨h6, g6, c6⟩ := H6.out
      obtain ⟨e1, e2⟩ := HS.out.2.2.2 q2 q4 q6
      refine .inr ⟨e1, rfl, F6, w6.heap.size, by rw [e2]; exact h7, m7, fun k hk => (g6 k hk).imp id (fun q => ⟨q.1, Nat.lt_of_lt_of_le q.2 c7.size⟩), ?_, c6.size, (m7 0).lt, fun z => Nat.lt_irrefl _ (h6.bd _ z)⟩
      exact ⟨c7.os.trans c6.os, c7.tape.trans c6.tape, c7.output.trans c6.output, Nat.le_trans c6.size c7.size, fun k hk hF => (c7.block k (Nat.lt_of_lt_of_le hk c6.size) (fun z => hF (.inr z))).trans (c6.block k hk (fun z => hF (.inl z)))⟩
end Go.Proofs.YtjippoejaieneaaGreat
