/- What is copied into a partition's memory is copied out of it: the walk of the law. Conditions: numbers and texts that a machine holds. -/
import Derived.Test.YtedhefidfepclaaSpk
import Derived.Test.YtedhefidfepclaaSpe
import Derived.Deep.RegionHeld3
namespace Go.Proofs.Ytedhefidfepclaa
open Go.RowKit Go.Maps
set_option linter.unusedVariables false
set_option linter.unusedSimpArgs false

theorem soutE_zero {ns : List Nat} {ps : List Pg} {k a : Int} {n : Nat} (h : soutE ns ps k a n = 0) : isP ns k ∧ n ≤ 255 ∧ writeE ps.length (tabP ns ps k.toNat) a n = 0 := by
  unfold soutE at h
  split at h
  · rename_i h1
    split at h
    · exact absurd h (by decide)
    · split at h
      · exact ⟨h1, by omega, by assumption⟩
      · exact absurd h (by decide)
  · exact absurd h (by decide)
theorem space_law {ns : List Nat} {ps : List Pg} {B : Bts} (h : Frj ps) (hs : ps.length = ns.sum) (hB : B.length = 256 * ps.length) (i : Nat) (hi : i < ns.length) (a : Int) (t : Bts) (hE : soutE ns ps i a t.length = 0) :
    sinE ns ps i a t.length = 0 ∧ sinS ns ps (soutB ns ps B i a t) i a t.length = t ∧
    (t = [] → soutB ns ps B i a t = B) ∧
    (t ≠ [] → ∃ a' : Nat, a = (a' : Int) ∧ a' + t.length ≤ (catP ps.length B (tabP ns ps i) ns[i]).length ∧ catP ps.length (soutB ns ps B i a t) (tabP ns ps i) ns[i] = lay (catP ps.length B (tabP ns ps i) ns[i]) a' t) := by
  obtain ⟨h1, h2, h3⟩ := soutE_zero hE
  rw [show (i : Int).toNat = i from rfl] at h3
  have hrow := tab_row h hs i hi
  have htl := tabP_len hs i hi
  have hb1 := bnd_succ ns i hi
  have hb2 := bnd_le ns (i + 1)
  have hF : bnd ns i + (tabP ns ps i).length ≤ ps.length := by rw [htl]; omega
  have hc : chk ps.length (tabP ns ps i) = 0 := by
    by_cases c : chk ps.length (tabP ns ps i) = 0
    · exact c
    · unfold writeE at h3; rw [if_neg c] at h3; exact absurd h3 c
  have hth : thereE (tabP ns ps i) 2 a t.length = 0 := by
    unfold writeE at h3
    rw [if_pos hc, if_pos (by omega)] at h3
    exact h3
  obtain ⟨r1, r2⟩ := row_there hrow 2 t.length a hth
  have eB : soutB ns ps B i a t = wr (tabP ns ps i) a t B := by
    unfold soutB writeB
    rw [if_pos hE, show (i : Int).toNat = i from rfl, if_pos h3]
  have eR : readE ps.length (tabP ns ps i) a t.length 1 = 0 := by
    unfold readE
    rw [if_pos hc, if_pos (by unfold sizeOk; omega)]
    exact r1
  have e1 : sinE ns ps i a t.length = 0 := by
    unfold sinE
    rw [if_pos h1, if_neg (by omega), show (i : Int).toNat = i from rfl, if_pos eR]
  have eS : sinS ns ps (soutB ns ps B i a t) i a t.length = rd (tabP ns ps i) (soutB ns ps B i a t) a t.length := by
    unfold sinS readS
    rw [if_pos e1, show (i : Int).toNat = i from rfl, if_pos eR]
    rfl
  by_cases c : t = []
  · subst c
    refine ⟨e1, by rw [eS]; rfl, fun _ => by rw [eB]; rfl, fun h => absurd rfl h⟩
  · have c0 : t.length ≠ 0 := fun e => c (List.eq_nil_of_length_eq_zero e)
    obtain ⟨a0, a1⟩ := r2 c0
    obtain ⟨a', rfl⟩ : ∃ a' : Nat, a = (a' : Int) := ⟨a.toNat, by omega⟩
    have hin : a' + t.length ≤ 256 * (tabP ns ps i).length := by omega
    have hBl : 256 * (bnd ns i + (tabP ns ps i).length) ≤ B.length := by omega
    have eL : soutB ns ps B i a' t = lay B (256 * bnd ns i + a') t := by rw [eB, row_wr hrow t a' B hin hBl]
    obtain ⟨l1, l2, l3⟩ := row_law hrow B hF hB a' t hin
    rw [htl] at l1 l3
    refine ⟨e1, ?_, fun e => absurd e c, fun _ => ⟨a', rfl, by rw [l3, ← htl]; exact hin, by rw [eL]; exact l1⟩⟩
    rw [eS, eL, row_rd hrow _ t.length a' hin (by rw [lay_len (by omega)]; exact hBl)]
    exact l2
/-- a text laid over another: its pieces -/
theorem lay_pieces (W : Bts) (a : Nat) (t : ByteArray) (h : a + t.size ≤ W.length) :
    (ofL (lay W a t.data.toList)).extract 0 a = (ofL W).extract 0 a ∧ (ofL (lay W a t.data.toList)).extract (a + t.size) W.length = (ofL W).extract (a + t.size) W.length ∧ (ofL (lay W a t.data.toList)).extract a (a + t.size) = t ∧ (ofL (lay W a t.data.toList)).size = W.length ∧ (ofL W).size = W.length := by
  have hl : (lay W a t.data.toList).length = W.length := lay_len (by rw [baList]; exact h)
  have ext : ∀ (X : Bts) (i j : Nat), ((ofL X).extract i j).data.toList = (X.drop i).take (j - i) := fun X i j => by
    simp only [ofL, ByteArray.data_extract, Array.toList_extract, List.extract_eq_take_drop]
  have hg := fun j => lay_get (l := W) (o := a) (t := t.data.toList) (by rw [baList]; exact h) j
  rw [baList] at hg
  refine ⟨?_, ?_, ?_, by rw [ofL_size, hl], ofL_size _⟩
  · refine ByteArray.ext (Array.ext' ?_)
    rw [ext, ext]
    apply List.ext_getElem?
    intro j
    rw [List.getElem?_take, List.getElem?_take, List.getElem?_drop, List.getElem?_drop, hg]
    split
    · rw [if_neg (by omega)]
    · rfl
  · refine ByteArray.ext (Array.ext' ?_)
    rw [ext, ext]
    apply List.ext_getElem?
    intro j
    rw [List.getElem?_take, List.getElem?_take, List.getElem?_drop, List.getElem?_drop, hg]
    split
    · rw [if_neg (by omega)]
    · rfl
  · refine ByteArray.ext (Array.ext' ?_)
    rw [ext]
    apply List.ext_getElem?
    intro j
    rw [List.getElem?_take, List.getElem?_drop, hg]
    by_cases c : j < t.size
    · rw [if_pos (by omega), if_pos (by omega)]; congr 1; omega
    · rw [if_neg (by omega), List.getElem?_eq_none (by rw [baList]; omega)]
set_option maxRecDepth 100000 in
set_option maxHeartbeats 4000000 in
theorem back_no (w : World) (G : Nat → Prop) (v : Value) (ps : List Pg) (ht : TabV G w v ps) (hl : ps.length ≤ 140737488355328) (hno : ¬ okL ps) (pr : ByteArray) (a0 a1 a2 a3 a4 : Int) (t : ByteArray) :
    Calls Try.prog 5 #[v, .string pr, .agg #[.int .i64 a0, .int .i64 a1, .int .i64 a2, .int .i64 a3, .int .i64 a4, .string t]] w fun e w' => e = .returned (.bool true) ∧ Below w.heap.size w w' := by
  obtain ⟨q, n, cap0, rfl⟩ : ∃ q n cap, v = .slice q n cap := by obtain ⟨q, cap, e, _⟩ := ht; exact ⟨_, _, _, e⟩
  obtain ⟨w1, hw1⟩ : ∃ w1, w1 = w.alloc (.cells #[.int .i64 a0, .int .i64 a1, .int .i64 a2, .int .i64 a3, .int .i64 a4, .string t] 35) := ⟨_, rfl⟩
  have hb1 : Below w.heap.size w w1 := by rw [hw1]; exact (Below.refl _ w).alloc (Nat.le_refl _) _
  have k7 := snew_no w1 G (.slice q n cap0) ps (ht.below hb1) hno
  have k20 : Hid (∀ W, Below w.heap.size w W → Calls Try.prog 20 #[.slice q n cap0] W fun e w' => e = .returned (.bool false) ∧ W = w') := Lib.hid fun W hW => by
    have := checkT_any W G (.slice q n cap0) ps (ht.below hW) hl
    rw [decide_eq_false hno] at this; exact this
  have K7 := Lib.hid k7
  have HB := Lib.hid hb1
  rw [hw1] at K7 HB
  clear k7 hw1 hb1 ht hno hl
  go_enter Try.func5, Try.ntmps5
  go_wp2_with (first
    | (go_at_call 7; (with_reducible refine K7.out.mono ?_); rintro e w2 ⟨rfl, hb⟩; have H2 := Lib.hid (HB.out.trans (hb.mono HB.out.size)); clear hb)
    | (go_at_call 20; (with_reducible refine (k20.out _ H2.out).mono ?_); rintro e _ ⟨rfl, rfl⟩)
    | (go_at_call 9; (with_reducible refine (fixed_any _).mono ?_); rintro e w4 ⟨rfl, hb⟩; have H4 := Lib.hid (H2.out.trans (hb.mono H2.out.size)); clear hb))
  go_ret
  exact ⟨rfl, H4.out⟩
theorem layB_len {F : Nat} {B : Bts} (hB : B.length = 256 * F) (f a : Int) (t : Bts) : (layB F B f a t).length = B.length := by
  unfold layB
  split
  · rename_i h
    unfold layE at h
    split at h
    · rename_i h1
      unfold isF at h1
      split at h
      · exact absurd h (by decide)
      · exact lay_len (by omega)
    · exact absurd h (by decide)
  · rfl
theorem clrB_len {F : Nat} {B : Bts} (hB : B.length = 256 * F) (f : Int) : (clrB F B f).length = B.length := by
  unfold clrB
  split
  · rename_i h1
    unfold isF at h1
    exact lay_len (by rw [nb_len]; omega)
  · rfl
theorem ldB_len {F : Nat} {B : Bts} (hB : B.length = 256 * F) (ps : List Pg) (x : Nat) (t : Bts) : ∀ k, (ldB F ps x t B k).length = B.length
  | 0 => rfl
  | k + 1 => by
    have ih := ldB_len hB ps x t k
    rw [ldB, layB_len (by rw [clrB_len (by rw [ih]; exact hB), ih]; exact hB), clrB_len (by rw [ih]; exact hB), ih]
theorem sldB_len {ns : List Nat} {ps : List Pg} {B : Bts} (hB : B.length = 256 * ps.length) (k : Int) (t : Bts) : (sldB ns ps B k t).length = B.length := by
  unfold sldB; split
  · exact ldB_len hB _ _ _ _
  · rfl
theorem Sp.all_ {n0 : Nat} {w0 w : World} {s : SpAt} {B : Bts} {ns : List Nat} {ps : List Pg} (h : Sp n0 w0 w s B ns ps) (i : Nat) (hi : i < ns.length) :
    Calls Try.prog 22 #[.pointer (some ⟨s.p, 0, none⟩), .int .i64 (i : Int)] w fun e w' => e = .returned (.string (ofL (catP ps.length B (tabP ns ps i) ns[i]))) ∧ Sp n0 w0 w' s B ns ps :=
  (all_any w s B ns ps h.1 i hi).mono fun e w' ⟨a, b⟩ => ⟨a, h.below b⟩
set_option maxRecDepth 100000 in
set_option maxHeartbeats 4000000 in
theorem back_yes (w : World) (G : Nat → Prop) (v : Value) (ps : List Pg) (ht : TabV G w v ps) (hok : okL ps) (pr : ByteArray) (a0 a1 a2 a3 a4 : Int) (t : ByteArray) (hpr : pr.size ≤ 140737488355328) (h2 : In64 a2) (h3 : In64 a3) (hts : t.size ≤ 140737488351232) :
    Calls Try.prog 5 #[v, .string pr, .agg #[.int .i64 a0, .int .i64 a1, .int .i64 a2, .int .i64 a3, .int .i64 a4, .string t]] w fun e w' => e = .returned (.bool true) ∧ Below w.heap.size w w' := by
  obtain ⟨q, n, cap0, rfl⟩ : ∃ q n cap, v = .slice q n cap := by obtain ⟨q, cap, e, _⟩ := ht; exact ⟨_, _, _, e⟩
  have hn : n = ps.length := by obtain ⟨q, cap, e, e2, _⟩ := ht; injection e with _ e3 e4
  obtain ⟨w1, hw1⟩ : ∃ w1, w1 = w.alloc (.cells #[.int .i64 a0, .int .i64 a1, .int .i64 a2, .int .i64 a3, .int .i64 a4, .string t] 35) := ⟨_, rfl⟩
  have hb1 : Below w.heap.size w w1 := by rw [hw1]; exact (Below.refl _ w).alloc (Nat.le_refl _) _
  have hop : w1.heap[w.heap.size]? = some (.cells #[.int .i64 a0, .int .i64 a1, .int .i64 a2, .int .i64 a3, .int .i64 a4, .string t] 35 (0, 0)) := by rw [hw1]; exact block_new _ _
  have hlt := block_lt hop
  obtain ⟨ns, hns⟩ : ∃ ns, ns = nsP ps := ⟨_, rfl⟩
  have hnl : ns.length = n := by rw [hns, nsP_len, hn]
  obtain ⟨i, hi⟩ : ∃ i, i = plc a2 n := ⟨_, rfl⟩
  have hn1 : 0 < n := by have := hok.1; omega
  have hn8 : n ≤ 8 := by have := hok.2.1; omega
  have hil : i < ns.length := by rw [hnl, hi]; exact plc_lt _ _ hn1
  have k10 := fun W => place_any a2 n h2 hn1 (by omega) W
  rw [← hi] at k10
  obtain ⟨P, hP⟩ : ∃ P, P = sldP ns (pg0 ns.sum) i pr.data.toList := ⟨_, rfl⟩
  obtain ⟨B, hB⟩ : ∃ B, B = sldB ns (pg0 ns.sum) (nb (256 * ns.sum)) i pr.data.toList := ⟨_, rfl⟩
  have hPl : P.length = ns.sum := by rw [hP, sldP_len, pg0_len]
  have hPf : Frj P := by rw [hP]; exact frj_sldP (frj_pg0 _) (by rw [pg0_len]) _ _
  have hBl : B.length = 256 * P.length := by rw [hB, sldB_len (by rw [nb_len, pg0_len]), nb_len, hPl]
  -- behind the block of the operation
  obtain ⟨n1, hn1e⟩ : ∃ n1, n1 = w1.heap.size := ⟨_, rfl⟩
  obtain ⟨wS, hwS⟩ : ∃ wS, wS = w1 := ⟨_, rfl⟩
  have k7 : Calls Try.prog 7 #[.slice q n cap0] w1 fun e w' => ∃ s : SpAt, e = .returned (.tuple #[.pointer (some ⟨s.p, 0, none⟩), .int .i64 0]) ∧ Hid (Sp n1 wS w' s (nb (256 * ns.sum)) ns (pg0 ns.sum)) := by
    rw [hwS]
    have k := snew_any w1 G (.slice q n cap0) ps (ht.below hb1) hok
    rw [← hns] at k
    refine k.mono fun e w' ⟨s, he, hS, hb, h1, h2⟩ => ⟨s, he, Lib.hid ⟨hS, by rw [hn1e]; exact hb, by rw [hn1e]; exact Nat.le_refl _, by rw [hn1e]; exact h1, by rw [hn1e]; exact h2⟩⟩
  have k11 : ∀ (W : World) (s : SpAt), Sp n1 wS W s (nb (256 * ns.sum)) ns (pg0 ns.sum) → Calls Try.prog 11 #[.pointer (some ⟨s.p, 0, none⟩), .int .i64 (i : Int), .string pr] W fun e w' => e = .returned (.int .i64 (sldE ns i pr.size)) ∧ Sp n1 wS w' s B ns P := fun W s h => by
    have := h.load i pr hpr
    rw [← hP, ← hB] at this; exact this
  have hop2 : wS.heap[w.heap.size]? = some (.cells #[.int .i64 a0, .int .i64 a1, .int .i64 a2, .int .i64 a3, .int .i64 a4, .string t] 35 (0, 0)) := by rw [hwS]; exact hop
  have hlt2 := block_lt hop2
  -- the operation's cells, in each world behind
  have cel : ∀ (W : World) (s : SpAt) (B' : Bts), Sp n1 wS W s B' ns P → W.cell? ⟨w.heap.size, 3, none⟩ = some (.int .i64 a3) ∧ W.cell? ⟨w.heap.size, 5, none⟩ = some (.string t) := fun W s B' h => by
    have e := (h.2.1.block w.heap.size (by rw [hn1e, ← hwS]; exact hlt2)).trans hop2
    exact ⟨by rw [cell_of_row _ _ _ _ _ _ e]; rfl, by rw [cell_of_row _ _ _ _ _ _ e]; rfl⟩
  have cel2 : ∀ (W : World) (s : SpAt), Sp n1 wS W s (nb (256 * ns.sum)) ns (pg0 ns.sum) → W.cell? ⟨w.heap.size, 2, none⟩ = some (.int .i64 a2) := fun W s h => by
    have e := (h.2.1.block w.heap.size (by rw [hn1e, ← hwS]; exact hlt2)).trans hop2
    rw [cell_of_row _ _ _ _ _ _ e]; rfl
  obtain ⟨T, hT⟩ : ∃ T, T = tabP ns P i := ⟨_, rfl⟩
  obtain ⟨B2, hB2⟩ : ∃ B2, B2 = soutB ns P B i a3 t.data.toList := ⟨_, rfl⟩
  obtain ⟨X, hX⟩ : ∃ X, X = ofL (catP P.length B (tabP ns P i) ns[i]) := ⟨_, rfl⟩
  obtain ⟨Y, hY⟩ : ∃ Y, Y = ofL (catP P.length B2 (tabP ns P i) ns[i]) := ⟨_, rfl⟩
  obtain ⟨Z, hZ⟩ : ∃ Z, Z = ofL (sinS ns P B2 i a3 t.size) := ⟨_, rfl⟩
  have k22 : ∀ (W : World) (s : SpAt), Sp n1 wS W s B ns P → Calls Try.prog 22 #[.pointer (some ⟨s.p, 0, none⟩), .int .i64 (i : Int)] W fun e w' => e = .returned (.string X) ∧ Sp n1 wS w' s B ns P := fun W s h => by rw [hX]; exact h.all_ i hil
  have k22b : ∀ (W : World) (s : SpAt), Sp n1 wS W s B2 ns P → Calls Try.prog 22 #[.pointer (some ⟨s.p, 0, none⟩), .int .i64 (i : Int)] W fun e w' => e = .returned (.string Y) ∧ Sp n1 wS w' s B2 ns P := fun W s h => by rw [hY]; exact h.all_ i hil
  have k15 : ∀ (W : World) (s : SpAt), Sp n1 wS W s B ns P → Calls Try.prog 15 #[.pointer (some ⟨s.p, 0, none⟩), .int .i64 (i : Int), .int .i64 a3, .string t] W fun e w' => e = .returned (.int .i64 (soutE ns P i a3 t.size)) ∧ Sp n1 wS w' s B2 ns P := fun W s h => by rw [hB2]; exact h.out i a3 t h3 (by omega)
  have k13 : ∀ (W : World) (s : SpAt), Sp n1 wS W s B2 ns P → Calls Try.prog 13 #[.pointer (some ⟨s.p, 0, none⟩), .int .i64 (i : Int), .int .i64 a3, .int .i64 (t.size : Int)] W fun e w' => e = .returned (.tuple #[.string Z, .int .i64 (sinE ns P i a3 t.size)]) ∧ Sp n1 wS w' s B2 ns P := fun W s h => by rw [hZ]; exact h.in_ i a3 t.size h3
  have law := fun hE => space_law hPf hPl hBl i hil a3 t.data.toList hE
  rw [baList, ← hB2] at law
  have hB2n : soutE ns P i a3 t.size ≠ 0 → Y = X := fun hne => by
    rw [hY, hX, hB2]; unfold soutB; rw [baList, if_neg hne]
  have HB : Hid (Below w.heap.size w wS ∧ n1 = wS.heap.size ∧ w.heap.size < wS.heap.size) := Lib.hid (by rw [hwS]; exact ⟨hb1, hn1e, hlt⟩)
  have K7 := Lib.hid k7
  have K10 := Lib.hid k10
  have K11 := Lib.hid k11
  have K22 := Lib.hid k22
  have K22b := Lib.hid k22b
  have K15 := Lib.hid k15
  have K13 := Lib.hid k13
  have CE := Lib.hid cel
  have CE2 := Lib.hid cel2
  have hd2 : (w.alloc (.cells #[.int .i64 a0, .int .i64 a1, .int .i64 a2, .int .i64 a3, .int .i64 a4, .string t] 35)).heap.size = w.heap.size + 1 := by simp
  generalize hE : soutE ns P i a3 t.size = E at *
  generalize hF : sinE ns P i a3 t.size = E2 at *
  generalize sldE ns i pr.size = E3 at *
  by_cases c : E = 0
  · subst c
    obtain ⟨l1, l2, l3, l4⟩ := law rfl
    subst l1
    have hZt : Z = t := by rw [hZ, l2]; exact ofL_of t
    rw [hZt] at K13
    by_cases c : t.data.toList = []
    · have hYX : Y = X := by rw [hY, hX, l3 c]
      have ht0 : t = ⟨#[]⟩ := ByteArray.ext (Array.ext' (by rw [c]))
      rw [hYX] at K22b
      rw [hw1] at K7
      subst ht0
      rw [show ((⟨#[]⟩ : ByteArray).size : Int) = 0 from rfl] at K13
      clear hYX hB2n law k7 k10 k11 k22 k22b k15 k13 cel cel2 hX hY hZ hZt hT hB2 hPl hPf hBl hP hB hil hi hns hnl hn ht hok hop hop2 hlt hlt2 hn1e hb1 hE hF c l2 l3 l4
      clear hwS hw1 hd2
      go_enter Try.func5, Try.ntmps5
      go_wp2_with (first
        | (go_at_call 7; (with_reducible refine K7.out.mono ?_); rintro e w2 ⟨s, rfl, H2⟩; have d2 := CE2.out _ _ H2.out)
        | (go_at_call 10; (with_reducible refine (K10.out _).mono ?_); rintro e _ ⟨rfl, rfl⟩)
        | (go_at_call 11; (with_reducible refine (K11.out _ _ H2.out).mono ?_); rintro e w3 ⟨rfl, h3⟩; have H3 := Lib.hid h3; clear h3)
        | (go_at_call 22; (with_reducible refine (K22.out _ _ H3.out).mono ?_); rintro e w4 ⟨rfl, h4⟩; have H4 := Lib.hid h4; obtain ⟨d3, d5⟩ := CE.out _ _ _ h4; clear h4)
        | (go_at_call 15; (with_reducible refine (K15.out _ _ H4.out).mono ?_); rintro e w5 ⟨rfl, h5⟩; have H5 := Lib.hid h5; obtain ⟨f3, f5⟩ := CE.out _ _ _ h5; clear h5)
        | (go_at_call 13; (with_reducible refine (K13.out _ _ H5.out).mono ?_); rintro e w8 ⟨rfl, h8⟩; have H8 := Lib.hid h8; clear h8)
        | (go_at_call 22; (with_reducible refine (K22b.out _ _ H8.out).mono ?_); rintro e w6 ⟨rfl, h6⟩; have H6 := Lib.hid h6; obtain ⟨g3, g5⟩ := CE.out _ _ _ h6; clear h6)
        | (go_at_call 9; (with_reducible refine (fixed_any _).mono ?_); rintro e w7 ⟨rfl, hb⟩; have H7 := Lib.hid ((HB.out.1.trans (H6.out.2.1.mono (by have := HB.out.2; omega))).trans (hb.mono (by have := HB.out.2; have := H6.out.2.1.size; omega))); clear hb))
      go_ret
      exact ⟨rfl, H7.out⟩
    · obtain ⟨a, rfl, l5, l6⟩ := l4 c
      have hn0 : t.size ≠ 0 := fun e => c (List.eq_nil_of_length_eq_zero (by rw [baList]; exact e))
      obtain ⟨e1, e2, e3, e4, e5⟩ := lay_pieces _ a t l5
      rw [← l6, ← hY, ← hX] at e1 e2
      rw [← l6, ← hY] at e3 e4
      rw [← hX] at e5
      have hS : Y.size = X.size := by rw [e4, e5]
      rw [← e5] at e2 l5
      have e2' : Y.extract (a + t.size) Y.size = X.extract (a + t.size) X.size := by rw [hS]; exact e2
      have hXs : X.size ≤ 4096 := by
        rw [e5, row_cat (tab_row hPf hPl i hil) B (by have := bnd_succ ns i hil; have := bnd_le ns (i + 1); rw [tabP_len hPl i hil]; omega) hBl _ (by rw [tabP_len hPl i hil]; exact Nat.le_refl _), List.length_take]
        have h16 : ns[i] ≤ 16 := by
          have : ns[i] ∈ nsP ps := by rw [← hns]; exact List.getElem_mem _
          obtain ⟨p, hp, hpe⟩ := List.mem_map.1 this
          have := hok.2.2 p hp
          unfold okT at this
          omega
        omega
      have t0 : t.toList.isEmpty = false := by rw [ByteArray.toList_eq]; cases hl : t.data.toList with | nil => exact absurd hl c | cons _ _ => rfl
      have hYs : Y.size ≤ 4096 := by omega
      obtain ⟨c', hc'⟩ : ∃ c', c' = a + t.size := ⟨_, rfl⟩
      rw [← hc'] at e2 e2' e3
      have p0 : (0 : Int) ≤ (a : Int) := by omega
      have p0c : (0 : Int) ≤ (c' : Int) := by omega
      have p1 : (a : Int) ≤ (X.size : Int) - (t.size : Int) := by omega
      have p1y : (a : Int) ≤ (Y.size : Int) - (t.size : Int) := by omega
      have p2 : (c' : Int) ≤ (X.size : Int) := by omega
      have p2y : (c' : Int) ≤ (Y.size : Int) := by omega
      have p3 : (a : Int) ≤ (X.size : Int) := by omega
      have p3y : (a : Int) ≤ (Y.size : Int) := by omega
      have p4 : a ≤ X.size := by omega
      have p4y : a ≤ Y.size := by omega
      have p5 : c' ≤ X.size := by omega
      have p5y : c' ≤ Y.size := by omega
      have p6 : (a : Int) ≤ (c' : Int) := by omega
      have p7 : a ≤ c' := by omega
      have q1 : IntKind.i64.wrap ((a : Int) + (t.size : Int)) = (c' : Int) := by rw [IntWalk.i64_in _ (by omega)]; omega
      have q2 : IntKind.i64.wrap ((X.size : Int) - (t.size : Int)) = (X.size : Int) - (t.size : Int) := IntWalk.i64_in _ (by omega)
      have q3 : IntKind.i64.wrap ((Y.size : Int) - (t.size : Int)) = (Y.size : Int) - (t.size : Int) := IntWalk.i64_in _ (by omega)
      clear hc'
      rw [hw1] at K7
      clear hB2n law k7 k10 k11 k22 k22b k15 k13 cel cel2 hX hY hZ hZt hT hB2 hPl hPf hBl hP hB hil hi hns hnl hn ht hok hop hop2 hlt hlt2 hn1e hb1 hE hF c l2 l3 l4 l5 l6 e4 e5
      clear hwS hw1 hd2
      go_enter Try.func5, Try.ntmps5
      go_wp2_with (first
        | (go_at_call 7; (with_reducible refine K7.out.mono ?_); rintro e w2 ⟨s, rfl, H2⟩; have d2 := CE2.out _ _ H2.out)
        | (go_at_call 10; (with_reducible refine (K10.out _).mono ?_); rintro e _ ⟨rfl, rfl⟩)
        | (go_at_call 11; (with_reducible refine (K11.out _ _ H2.out).mono ?_); rintro e w3 ⟨rfl, h3⟩; have H3 := Lib.hid h3; clear h3)
        | (go_at_call 22; (with_reducible refine (K22.out _ _ H3.out).mono ?_); rintro e w4 ⟨rfl, h4⟩; have H4 := Lib.hid h4; obtain ⟨d3, d5⟩ := CE.out _ _ _ h4; clear h4)
        | (go_at_call 15; (with_reducible refine (K15.out _ _ H4.out).mono ?_); rintro e w5 ⟨rfl, h5⟩; have H5 := Lib.hid h5; obtain ⟨f3, f5⟩ := CE.out _ _ _ h5; clear h5)
        | (go_at_call 13; (with_reducible refine (K13.out _ _ H5.out).mono ?_); rintro e w8 ⟨rfl, h8⟩; have H8 := Lib.hid h8; clear h8)
        | (go_at_call 22; (with_reducible refine (K22b.out _ _ H8.out).mono ?_); rintro e w6 ⟨rfl, h6⟩; have H6 := Lib.hid h6; obtain ⟨g3, g5⟩ := CE.out _ _ _ h6; clear h6)
        | (go_at_call 9; (with_reducible refine (fixed_any _).mono ?_); rintro e w7 ⟨rfl, hb⟩; have H7 := Lib.hid ((HB.out.1.trans (H6.out.2.1.mono (by have := HB.out.2; omega))).trans (hb.mono (by have := HB.out.2; have := H6.out.2.1.size; omega))); clear hb))
      have hS0 : w6.drew.cell? ⟨w.heap.size, 3, none⟩ = some (.int .i64 (a : Int)) ∧ w6.drew.cell? ⟨w.heap.size, 5, none⟩ = some (.string t) := ⟨g3, g5⟩
      have K9 : Hid (Calls Try.prog 9 #[] w6.drew fun e W => e = .returned (.bool true) ∧ (W.cell? ⟨w.heap.size, 3, none⟩ = some (.int .i64 (a : Int)) ∧ W.cell? ⟨w.heap.size, 5, none⟩ = some (.string t)) ∧ Hid (Below w.heap.size w W)) := Lib.hid (by
        refine (fixed_any w6.drew).mono fun e W ⟨he, hb⟩ => ⟨he, ⟨cell_below hS0.1 hb, cell_below hS0.2 hb⟩, Lib.hid ?_⟩
        have hw6 : Below w.heap.size w w6 := HB.out.1.trans (H6.out.2.1.mono (by have := HB.out.2; omega))
        have hd6 : Below w.heap.size w w6.drew := ⟨hw6.os, hw6.tape, hw6.output, hw6.size, hw6.block⟩
        exact hd6.trans (hb.mono hd6.size))
      go_region_held3 (fun W => W.cell? ⟨w.heap.size, 3, none⟩ = some (.int .i64 (a : Int)) ∧ W.cell? ⟨w.heap.size, 5, none⟩ = some (.string t)) (with_reducible first | exact hS0 | exact hS1) (first | (go_at_call 9; (with_reducible refine K9.out.mono ?_); rintro e w7 ⟨rfl, hS1, H7⟩))
      go_wp2
      go_ret
      exact ⟨rfl, H7.out⟩
  · have hYX := hB2n c
    have c1 : (E != 0) = true := by simpa using c
    have c2 : (E == 0) = false := by simpa using c
    rw [hYX] at K22b
    rw [hw1] at K7
    clear hYX hB2n law k7 k10 k11 k22 k22b k15 k13 cel cel2 hX hY hZ hT hB2 hPl hPf hBl hP hB hil hi hns hnl hn ht hok hop hop2 hlt hlt2 hn1e hb1 hE hF c
    clear hwS hw1 hd2
    go_enter Try.func5, Try.ntmps5
    go_wp2_with (first
      | (go_at_call 7; (with_reducible refine K7.out.mono ?_); rintro e w2 ⟨s, rfl, H2⟩; have d2 := CE2.out _ _ H2.out)
      | (go_at_call 10; (with_reducible refine (K10.out _).mono ?_); rintro e _ ⟨rfl, rfl⟩)
      | (go_at_call 11; (with_reducible refine (K11.out _ _ H2.out).mono ?_); rintro e w3 ⟨rfl, h3⟩; have H3 := Lib.hid h3; clear h3)
      | (go_at_call 22; (with_reducible refine (K22.out _ _ H3.out).mono ?_); rintro e w4 ⟨rfl, h4⟩; have H4 := Lib.hid h4; obtain ⟨d3, d5⟩ := CE.out _ _ _ h4; clear h4)
      | (go_at_call 15; (with_reducible refine (K15.out _ _ H4.out).mono ?_); rintro e w5 ⟨rfl, h5⟩; have H5 := Lib.hid h5; obtain ⟨f3, f5⟩ := CE.out _ _ _ h5; clear h5)
      | (go_at_call 22; (with_reducible refine (K22b.out _ _ H5.out).mono ?_); rintro e w6 ⟨rfl, h6⟩; have H6 := Lib.hid h6; clear h6)
      | (go_at_call 9; (with_reducible refine (fixed_any _).mono ?_); rintro e w7 ⟨rfl, hb⟩; have H7 := Lib.hid ((HB.out.1.trans (H6.out.2.1.mono (by have := HB.out.2; omega))).trans (hb.mono (by have := HB.out.2; have := H6.out.2.1.size; omega))); clear hb))
    go_ret
    exact ⟨rfl, H7.out⟩
theorem back_any (w : World) (G : Nat → Prop) (v : Value) (ps : List Pg) (ht : TabV G w v ps) (hl : ps.length ≤ 140737488355328) (pr : ByteArray) (a0 a1 a2 a3 a4 : Int) (t : ByteArray) (hpr : pr.size ≤ 140737488355328) (h2 : In64 a2) (h3 : In64 a3) (hts : t.size ≤ 140737488351232) :
    Calls Try.prog 5 #[v, .string pr, .agg #[.int .i64 a0, .int .i64 a1, .int .i64 a2, .int .i64 a3, .int .i64 a4, .string t]] w fun e w' => e = .returned (.bool true) ∧ Below w.heap.size w w' := by
  by_cases c : okL ps
  · exact back_yes w G v ps ht c pr a0 a1 a2 a3 a4 t hpr h2 h3 hts
  · exact back_no w G v ps ht hl c pr a0 a1 a2 a3 a4 t
end Go.Proofs.Ytedhefidfepclaa
