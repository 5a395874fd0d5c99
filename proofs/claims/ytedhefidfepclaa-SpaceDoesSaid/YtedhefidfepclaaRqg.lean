/- The document's new space: what the call returns, and what it leaves. No conditions. -/
import Derived.Test.YtedhefidfepclaaRqf
namespace Go.Proofs.Ytedhefidfepclaa
open Go.RowKit Go.Maps
set_option linter.unusedVariables false
set_option linter.unusedSimpArgs false

/-- the rows of the tables of a new space -/
def newT (w w' : World) (q : QAt) : Nat → Prop := fun b => w.heap.size ≤ b ∧ b < w'.heap.size ∧ b ≠ q.g ∧ b ≠ q.gt
/-- what a new space leaves -/
def QNw (w : World) (ns : List Nat) (e : Ending) (w' : World) : Prop := ∃ q : QAt, e = .returned (.tuple #[.pointer (some ⟨q.y, 0, none⟩), .int .i64 0]) ∧ IsQ w' (newT w w' q) q (nb (256 * ns.sum)) ns (pg0 ns.sum) ∧ Below w.heap.size w w' ∧ w.heap.size ≤ q.y ∧ w.heap.size ≤ q.m ∧ w.heap.size ≤ q.g ∧ w.heap.size ≤ q.gt
theorem QI.done {w W : World} {Y : Nat} {ns : List Nat} {tq : Option Addr} {tc : Nat} (h : QI w W Y ns ns.length tq tc) (hL : 1 ≤ ns.length) (h8 : ns.length ≤ 8) (he : ∀ n ∈ ns, 1 ≤ n ∧ n ≤ 16) {p' g' cap' : Nat} (hm : IsR W p' g' cap' ns.sum (nb (256 * ns.sum))) (hp : w.heap.size ≤ p') (hg : w.heap.size ≤ g') :
    QNw w ns (.returned (.tuple #[.pointer (some ⟨Y, 0, none⟩), .int .i64 0])) (W.setCell ⟨Y, 0, none⟩ (.pointer (some ⟨p', 0, none⟩))) := by
  obtain ⟨h1, h2, h3, vs, h4, h5⟩ := h
  rcases h4.2 with ⟨_, e2⟩ | ⟨gt, ct, cur, e1, b1, b2, b3, b4, b5, b6⟩
  · omega
  · injection e1 with e1 _ e3
    subst e1; subst e3
    obtain ⟨_, hmr, _⟩ := hm.row
    have oth : ∀ a, a ≠ Y → (W.setCell ⟨Y, 0, none⟩ (.pointer (some ⟨p', 0, none⟩))).heap[a]? = W.heap[a]? := fun a ha => block_setCell_other (x := ⟨Y, 0, none⟩) ha
    have hs : (W.setCell ⟨Y, 0, none⟩ (.pointer (some ⟨p', 0, none⟩))).heap.size = W.heap.size := by simp [World.setCell]
    have ny : ∀ (a : Nat) (ca : Array Value) (ta : TypeId), W.heap[a]? = some (.cells ca ta (0, 0)) → ta ≠ 81 → a ≠ Y := fun a ca ta ha hta e => by
      subst e; rw [h1] at ha; injection ha with ha; injection ha with _ h3 _; exact hta h3.symm
    have hl : (pg0 ns.sum).length = ns.sum := pg0_len _
    refine ⟨⟨Y, p', g', cap', gt, tc⟩, rfl, ⟨block_setCell h1, ?_, ⟨cur, (oth gt (ny _ _ _ b2 (by decide))).trans b2, fun k hk => ?_⟩, hl, h8, he⟩, h2.setCell (p := ⟨Y, 0, none⟩) h3 _, h3, hp, hg, b1⟩
    · rw [hl]
      exact hm.of_heap (oth _ (ny _ _ _ hm.blk (by decide))) (oth _ (ny _ _ _ hmr (by decide)))
    · obtain ⟨v, v1, v2, v3⟩ := h5 k hk
      have hgd : ns.getD k 0 = ns[k] := by rw [List.getD_eq_getElem?_getD, List.getElem?_eq_getElem hk]; rfl
      rw [hgd] at v3
      refine ⟨v, ?_, ?_⟩
      · rw [← b6, List.getElem?_take] at v1
        split at v1
        · rw [← Array.getElem?_toList]; exact v1
        · cases v1
      · rw [pgs_tab ns k hk]
        refine tabV_own (own2_below v3 fun a ha => ?_) fun a ha => ?_
        · obtain ⟨_, c2, hc⟩ := own2_lt v3 a ha
          exact oth a (ny _ _ _ hc (by decide))
        · obtain ⟨l1, c2, hc⟩ := own2_lt v3 a ha
          refine ⟨l1, by rw [hs]; exact block_lt hc, fun e => ?_, fun e => ?_⟩
          · have e : a = g' := e
            rw [e, hmr] at hc; cases hc
          · have e : a = gt := e
            rw [e, b2] at hc; cases hc
set_option maxRecDepth 100000 in
set_option maxHeartbeats 8000000 in
theorem qnew_any (w : World) (G : Nat → Prop) (v : Value) (ps : List Pg) (ht : TabV G w v ps) (hok : okL ps) : Calls Try.prog 8 #[v] w (QNw w (nsP ps)) := by
  have h8 := hok.2.1
  have k20 := checkT_any w G v ps ht (by omega)
  rw [decide_eq_true hok] at k20
  obtain ⟨q, n, cap0, rfl⟩ : ∃ q n cap, v = .slice q n cap := by obtain ⟨q, cap, e, _⟩ := ht; exact ⟨_, _, _, e⟩
  have hn : n = ps.length := by obtain ⟨q, cap, e, e2, _⟩ := ht; injection e with _ e3 e4
  obtain ⟨ns, hns⟩ : ∃ ns, ns = nsP ps := ⟨_, rfl⟩
  have hl : ns.length = n := by rw [hns, nsP_len, hn]
  have hL : 1 ≤ ns.length := by rw [hl, hn]; exact hok.1
  have he : ∀ x ∈ ns, 1 ≤ x ∧ x ≤ 16 := fun x hx => by
    rw [hns] at hx
    obtain ⟨p, hp, rfl⟩ := List.mem_map.1 hx
    have := hok.2.2 p hp
    unfold okT at this; omega
  have hget : ∀ i, i < n → (ps.getD i (0, 0)).2 = (ns.getD i 0 : Int) := fun i hi => by
    have hip : i < ps.length := by omega
    have e1 : ns.getD i 0 = (ps.getD i (0, 0)).2.toNat := by
      rw [hns]; unfold nsP
      rw [List.getD_eq_getElem?_getD, List.getElem?_map, List.getD_eq_getElem?_getD, List.getElem?_eq_getElem hip]; rfl
    have := hok.2.2 (ps.getD i (0, 0)) (by rw [List.getD_eq_getElem?_getD, List.getElem?_eq_getElem hip]; exact List.getElem_mem _)
    unfold okT at this; omega
  have hm16 : ∀ i, i < n → ns.getD i 0 ≤ 16 := fun i hi => by
    have hin : i < ns.length := by omega
    rw [List.getD_eq_getElem?_getD, List.getElem?_eq_getElem hin]
    exact (he _ (List.getElem_mem _)).2
  have hbs : ∀ i, i ≤ n → bnd ns i ≤ 128 := fun i hi => by
    have := bnd_le16 ns (fun x hx => (he x hx).2) i
    omega
  have hsb : ∀ i, i < n → bnd ns (i + 1) = bnd ns i + ns.getD i 0 := fun i hi => by
    have hin : i < ns.length := by omega
    rw [bnd_succ ns i hin, List.getD_eq_getElem?_getD, List.getElem?_eq_getElem hin]; rfl
  have hsum : bnd ns n = ns.sum := by unfold bnd; rw [← hl, List.take_length]
  obtain ⟨b, o, rfl⟩ : ∃ b o, q = some ⟨b, o, none⟩ := by
    obtain ⟨q', cap', e, _, hc⟩ := ht
    injection e with e1 e2 _
    obtain ⟨b, o, hq, _⟩ := hc (fun e => by rw [e] at hn; simp at hn; omega)
    exact ⟨b, o, e1.trans hq⟩
  have HP : Hid (∀ W, Below w.heap.size w W → ∀ i, i < n → W.cell? ⟨b, o + i * 2 + 1, none⟩ = some (.int .i64 (ns.getD i 0 : Int))) := Lib.hid fun W hW i hi => by
    have := (tab_cell (ht.below hW)).2 i (by omega)
    rw [this.2, hget i hi]
  have H0 : Hid (QI w (w.alloc (.cells #[.pointer none, .slice none 0 0] 81)) w.heap.size ns 0 none 0) := Lib.hid ⟨block_new _ _, (Below.refl _ w).alloc (Nat.le_refl _) _, Nat.le_refl _, [], ⟨rfl, .inl ⟨rfl, rfl⟩⟩, fun j hj => absurd hj (by omega)⟩
  have HAP : Hid (∀ (W0 W : World) (i : Nat) (tq : Option Addr) (tc : Nat) (a : Option Addr) (l c : Nat), i < n → QI w W0 w.heap.size ns i tq tc → QJ W0 W (.slice a l c) (bnd ns i) (ns.getD i 0) → W.cell? ⟨w.heap.size, 1, none⟩ = some (.slice tq i tc) ∧
      ∃ q' c' W', (Builtin.append_ #[79, 79] 79 #[.slice tq i tc, .slice (some ⟨W.heap.size, 0, none⟩) 1 1]).run Try.prog (W.alloc (.cells #[.slice a l c] 50)) = .ok (.slice q' (i + 1) c') W' ∧ (∃ u, W'.cell? ⟨w.heap.size, 1, none⟩ = some u ∧ u.oneCell' = true) ∧ W'.frozen? ⟨w.heap.size, 1, none⟩ = false ∧
        Hid (QI w (W'.setCell ⟨w.heap.size, 1, none⟩ (.slice q' (i + 1) c')) w.heap.size ns (i + 1) q' c')) := Lib.hid fun W0 W i tq tc a l c hi h hj => by
    have h2 := (h.below hj.bel).y
    obtain ⟨q', c', W', r1, r2, r3, r4⟩ := h.app (by omega) (by omega) hj rfl
    exact ⟨by rw [cell_of_row _ _ _ _ _ _ h2]; rfl, q', c', W', r1, r2, r3, Lib.hid r4⟩
  have HEN : Hid (∀ (W : World) (tq : Option Addr) (tc : Nat), QI w W w.heap.size ns n tq tc → Calls Try.prog 31 #[.int .i64 (bnd ns n : Nat)] W fun e w3 => ∃ p', e = .returned (.tuple #[.pointer (some ⟨p', 0, none⟩), .int .i64 0]) ∧ w3.cell? ⟨w.heap.size, 0, none⟩ = some (.pointer none) ∧ w3.frozen? ⟨w.heap.size, 0, none⟩ = false ∧ Hid (QNw w ns (.returned (.tuple #[.pointer (some ⟨w.heap.size, 0, none⟩), .int .i64 0])) (w3.setCell ⟨w.heap.size, 0, none⟩ (.pointer (some ⟨p', 0, none⟩))))) := Lib.hid fun W tq tc h => by
    have hF1 : 1 ≤ bnd ns n := by
      have := hsb 0 (by omega)
      rw [bnd_zero] at this
      have h1 := (he (ns.getD 0 0) (by rw [List.getD_eq_getElem?_getD, List.getElem?_eq_getElem (by omega)]; exact List.getElem_mem _)).1
      have := bnd_le2 ns (0 + 1) n (by omega)
      omega
    have hF2 := hbs n (Nat.le_refl _)
    refine (rnew_any (bnd ns n) W (by omega)).mono fun e w3 ⟨p', x1, g', cap', x2, x3, x4, x5⟩ => ?_
    have h3 := h.below x3
    have hw := h.bel.size
    have hy := h3.y
    rw [hsum] at x2
    rw [← hl] at h3
    exact ⟨p', x1, by rw [cell_of_row _ _ _ _ _ _ hy]; rfl, block_free hy, Lib.hid (h3.done hL (by omega) he x2 (by omega) (by omega))⟩
  have HM := Lib.hid hm16
  have HBS := Lib.hid hbs
  have HSB := Lib.hid hsb
  rw [← hns]
  have hn8 : n ≤ 8 := by omega
  clear ht hok hn hns hl hL he hget hm16 hbs hsb hsum h8
  go_enter Try.func8, Try.ntmps8
  go_wp2_with (go_at_call 20; refine k20.mono ?_; rintro e _ ⟨rfl, rfl⟩)
  go_loopw [5, 6] (fun fv iv wr => ∃ (i : Nat) (tq : Option Addr) (tc : Nat), i ≤ n ∧ fv = .int .i64 (bnd ns i : Nat) ∧ iv = .int .i64 (i : Int) ∧ QI w wr w.heap.size ns i tq tc) (fun _ iv _ => n - (intOf iv).toNat)
  case atStart => exact ⟨0, none, 0, Nat.zero_le _, rfl, rfl, H0.out⟩
  case round =>
    obtain ⟨i, tq, tc, hin, rfl, rfl, hI⟩ := hrel
    by_cases a : i < n
    · have aI : (i : Int) < (n : Int) := by omega
      have aI0 : (0 : Int) ≤ (i : Int) := by omega
      obtain ⟨W0, hW0⟩ : ∃ W0, W0 = wr := ⟨_, rfl⟩
      subst hW0
      have hJ0 : Hid (QJ W0 (W0.alloc (.cells #[] 56)) (.slice (some ⟨W0.heap.size, 0, none⟩) 0 0) (bnd ns i) 0) := Lib.hid ⟨⟨rfl, .inr ⟨W0.heap.size, 0, #[], rfl, Nat.le_refl _, block_new _ _, Nat.le_refl _, Nat.zero_le _, rfl, rfl⟩⟩, (Below.refl _ W0).alloc (Nat.le_refl _) _⟩
      have HI := Lib.hid hI
      have hmi := HM.out i a
      have hbi := HBS.out i hin
      have hsi := HSB.out i a
      obtain ⟨ni, hni⟩ : ∃ ni, ni = ns.getD i 0 := ⟨_, rfl⟩
      obtain ⟨s0, hs0⟩ : ∃ s0, s0 = bnd ns i := ⟨_, rfl⟩
      rw [← hni, ← hs0] at hsi
      rw [← hni] at hmi
      rw [← hs0] at hbi hJ0
      have HNI := Lib.hid hni
      have HS0 := Lib.hid hs0
      have HSI := Lib.hid hsi
      rw [← hs0]
      clear hI hni hs0 hsi
      go_wp2
      go_loopw [5, 7, 8] (fun fv tv kv wr' => ∃ m f : Nat, m ≤ ni ∧ f = s0 + m ∧ fv = .int .i64 (f : Int) ∧ kv = .int .i64 (m : Int) ∧ QJ W0 wr' tv s0 m) (fun _ _ kv _ => ni - (intOf kv).toNat)
      case atStart => exact ⟨0, s0, Nat.zero_le _, rfl, rfl, rfl, hJ0.out⟩
      case round =>
        obtain ⟨m, f, hmn, hf, rfl, rfl, hJ⟩ := hrel
        have hbw : Below w.heap.size w wr := HI.out.bel.trans (hJ.bel.mono HI.out.bel.size)
        have cP := HP.out wr hbw i a
        rw [← HNI.out] at cP
        by_cases c : m < ni
        · have mI : (m : Int) < (ni : Int) := by omega
          obtain ⟨q', c', W', r1, r2⟩ := hJ.app (by omega)
          rw [← hf] at r1
          have HR := Lib.hid r1
          have HF := Lib.hid hf
          have HJ2 := Lib.hid r2
          have q1 : IntKind.i64.wrap ((f : Int) + 1) = (f : Int) + 1 := IntWalk.i64_in _ (by omega)
          have q2 : wrap64 ((f : Int) + 1) = (f : Int) + 1 := by unfold wrap64; omega
          clear hJ r1 r2 hf hbw
          go_wp2_with (at_builtin; refine wpList_append_run rfl (.tmp 30) (.tmp 33) 50 rfl _ _ _ _ rfl rfl HR.out ?_)
          exact ⟨⟨m + 1, f + 1, c, by have := HF.out; omega, by simp, by simp, HJ2.out⟩, by simp [intOf]; omega⟩
        · obtain rfl : m = ni := by omega
          obtain ⟨ta, tl, tcc, hu⟩ : ∃ ta tl tcc, u7 = .slice ta tl tcc := by
            rcases hJ.row.2 with ⟨e1, _⟩ | ⟨g, c, cur, e1, _⟩
            · exact ⟨_, _, _, e1⟩
            · exact ⟨_, _, _, e1⟩
          subst hu
          have hJ2 : QJ W0 wr (.slice ta tl tcc) (bnd ns i) (ns.getD i 0) := by rw [← HNI.out, ← HS0.out]; exact hJ
          obtain ⟨y1, q', c', W', hrun, ⟨u3, x3, o3⟩, y3, HE⟩ := HAP.out W0 wr i tq tc ta tl tcc a HI.out hJ2
          have HR := Lib.hid hrun
          have hfe : f = bnd ns (i + 1) := by rw [hf]; exact HSI.out.symm
          have HFE := Lib.hid hfe
          clear hJ hJ2 hrun hf hfe hbw
          go_wp2_with (at_builtin; refine wpList_append_run rfl (.tmp 41) (.tmp 43) 79 rfl _ _ _ _ rfl rfl HR.out ?_)
          exact ⟨⟨i + 1, q', c', a, by rw [← HFE.out], by simp, HE.out⟩, by simp [intOf]; omega⟩
    · obtain rfl : i = n := by omega
      have KE := Lib.hid (HEN.out wr _ _ hI)
      clear hI
      go_wp2_with (go_at_call 31; (with_reducible refine KE.out.mono ?_); rintro e w3 ⟨p', rfl, y1, y2, HQ⟩)
      go_ret2
      exact HQ.out
end Go.Proofs.Ytedhefidfepclaa
