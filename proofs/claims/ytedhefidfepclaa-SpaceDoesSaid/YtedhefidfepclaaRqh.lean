/- A space, cloned: what the call returns, and what it leaves. No conditions. -/
import Derived.Test.YtedhefidfepclaaRqg
namespace Go.Proofs.Ytedhefidfepclaa
open Go.RowKit Go.Maps
set_option linter.unusedVariables false
set_option linter.unusedSimpArgs false

/-- a row of pages, cloned -/
def PgC (w : World) (ps : List Pg) (e : Ending) (w' : World) : Prop := ∃ g' cap', e = .returned (.slice (some ⟨g', 0, none⟩) ps.length cap') ∧ (∃ cur : Array Value, w'.heap[g']? = some (.cells cur 56 (0, 0)) ∧ ∀ j, j < ps.length → cur[j * 2]? = some (.int .i64 (ps.getD j (0, 0)).1) ∧ cur[j * 2 + 1]? = some (.int .i64 (ps.getD j (0, 0)).2)) ∧ ps.length ≤ cap' ∧ w.heap.size ≤ g' ∧ Below w.heap.size w w'
set_option maxRecDepth 20000 in
set_option maxHeartbeats 1000000 in
theorem pgclone_any (G : Nat → Prop) (w : World) (b o cap : Nat) (ps : List Pg) (h : TabV G w (.slice (some ⟨b, o, none⟩) ps.length cap) ps) (h1 : 1 ≤ ps.length) (h2 : ps.length ≤ 128) :
    Calls Try.prog 45 #[.slice (some ⟨b, o, none⟩) ps.length cap] w (PgC w ps) := by
  obtain ⟨i0, hi, hz0, hz1, hz2⟩ := info_parts Try.info56
  have hnil := Lib.run_eql_slice_nil w 50 56 (some ⟨b, o, none⟩) ps.length cap 0 0 Try.underlying50
  obtain ⟨w1, hw1⟩ : ∃ w1, w1 = w.alloc (.cells #[] 56) := ⟨_, rfl⟩
  have hb1 : Below w.heap.size w w1 := by subst hw1; exact (Below.refl _ w).alloc (Nat.le_refl _) _
  have ho : w1.ownsRow w.heap.size 56 2 (.slice (some ⟨w.heap.size, 0, none⟩) 0 0) 0 [] := by
    rw [hw1]
    exact ⟨by simp, .inr ⟨w.heap.size, 0, #[], rfl, Nat.le_refl _, block_new _ _, Nat.le_refl _, Nat.zero_le _, by simp, by simp⟩⟩
  obtain ⟨v', w2, hrun, hown, hgr, hnn, hblk⟩ := run_append_own_at (P := Try.prog) (w := w1) w.heap.size 50 50 56 i0 (.agg #[.int .i64 0, .int .i64 0]) 2 16 Try.underlying50 hi hz0 hz1 hz2 rfl (by decide) _ 0 [] ho ⟨b, o, none⟩ ps.length cap (flatP ps) (by rw [flatP_len])
    (tab_flat (h.below hb1)) (by
      intro u hu
      unfold flatP at hu
      simp only [List.mem_flatMap, List.mem_cons, List.not_mem_nil, or_false] at hu
      obtain ⟨p, _, rfl | rfl⟩ := hu <;> rfl) (by unfold maxLen; omega) (by omega) hb1.size
  rw [Nat.zero_add, List.nil_append] at hown
  have hb2 : Below w.heap.size w w2 := hb1.grown hgr hb1.size (fun j e => by
    have : w.heap.size = j := by simpa [Value.ownBlock] using e
    omega)
  have H : Hid (PgC w ps (.returned v') w2) := Lib.hid (by
    rcases hown.2 with ⟨e, e2⟩ | ⟨g', c', cur, e, hb, hg', hnc, _, hcs, htk⟩
    · rw [e] at hnn; simp at hnn <;> omega
    · refine ⟨g', c', by rw [e], ⟨cur, hg', fun j hj => ?_⟩, hnc, hb, hb2⟩
      obtain ⟨f0, f1⟩ := flatP_get ps j hj
      rw [← htk] at f0 f1
      rw [List.getElem?_take, if_pos (by omega), Array.getElem?_toList] at f0 f1
      exact ⟨f0, f1⟩)
  rw [hw1] at hrun
  generalize hN : ps.length = n at hrun hnil ⊢
  clear hi hz0 hz1 hz2 ho hb1 hown hgr hnn hblk hb2 hw1 h h1 h2 hN
  go_enter Try.func45, Try.ntmps45
  go_wp2_with (at_builtin; refine wpList_append_run rfl (.tmp 5) (.tmp 6) 50 rfl _ _ _ _ rfl rfl hrun ?_)
  go_ret
  exact H.out
/-- a row of bounds, cloned -/
def BdC (w : World) (ns : List Nat) (e : Ending) (w' : World) : Prop := ∃ g' cap', e = .returned (.slice (some ⟨g', 0, none⟩) (ns.length + 1) cap') ∧ (∃ cur : Array Value, w'.heap[g']? = some (.cells cur 3 (0, 0)) ∧ ∀ k, k ≤ ns.length → cur[k]? = some (.int .i64 (bnd ns k : Nat))) ∧ w.heap.size ≤ g' ∧ Below w.heap.size w w'
def bdC (ns : List Nat) : List Value := (List.range (ns.length + 1)).map fun k => .int .i64 (bnd ns k : Nat)
theorem bdC_get (ns : List Nat) (k : Nat) (hk : k ≤ ns.length) : (bdC ns)[k]? = some (.int .i64 (bnd ns k : Nat)) := by
  unfold bdC
  rw [List.getElem?_map, List.getElem?_range (by omega)]
  rfl
set_option maxRecDepth 20000 in
set_option maxHeartbeats 1000000 in
theorem bdclone_any (w : World) (s : SpAt) (B : Bts) (ns : List Nat) (ps : List Pg) (h : IsS w s B ns ps) :
    Calls Try.prog 46 #[.slice (some ⟨s.gb, 0, none⟩) (ns.length + 1) s.cb] w (BdC w ns) := by
  obtain ⟨i0, hi, hz0, hz1, hz2⟩ := info_parts Try.info3
  have h8 := h.few
  have hnil := Lib.run_eql_slice_nil w 66 3 (some ⟨s.gb, 0, none⟩) (ns.length + 1) s.cb 0 0 Try.underlying66
  obtain ⟨w1, hw1⟩ : ∃ w1, w1 = w.alloc (.cells #[] 3) := ⟨_, rfl⟩
  have hb1 : Below w.heap.size w w1 := by subst hw1; exact (Below.refl _ w).alloc (Nat.le_refl _) _
  have h' := h.below hb1
  have hlen : (bdC ns).length = ns.length + 1 := by unfold bdC; rw [List.length_map, List.length_range]
  obtain ⟨r, c', w2, hrun, ⟨cur, hr1, _, _, hr4⟩, hgr, hbr⟩ := app_fresh (W := w1) (base := w.heap.size) (b := w.heap.size) 66 3 i0 (.int .i64 0) 8 Try.underlying66 hi hz0 hz1 hz2 rfl (by rw [hw1]; exact block_new w _) (Nat.le_refl _) s.gb (ns.length + 1) s.cb (bdC ns) hlen (by
    intro j u hu
    have hj : j < ns.length + 1 := by rw [← hlen]; exact (List.getElem?_eq_some_iff.1 hu).1
    rw [bdC_get ns j (by omega)] at hu
    rw [← hu]; exact h'.bound j (by omega)) (by
    intro u hu
    unfold bdC at hu
    obtain ⟨k, _, rfl⟩ := List.mem_map.1 hu; rfl) (by omega) (by omega) (by unfold maxLen; omega)
  have hb2 : Below w.heap.size w w2 := hb1.grown hgr hb1.size (fun k e => by injection e with e; omega)
  have H : Hid (BdC w ns (.returned (.slice (some ⟨r, 0, none⟩) (ns.length + 1) c')) w2) := Lib.hid ⟨r, c', rfl, ⟨cur, hr1, fun k hk => hr4 k _ (bdC_get ns k hk)⟩, hbr, hb2⟩
  rw [hw1] at hrun
  generalize hN : ns.length + 1 = n at hrun hnil H ⊢
  clear hi hz0 hz1 hz2 hb1 hgr hb2 hw1 h h' h8 hlen hN hr1 hr4 hbr
  go_enter Try.func46, Try.ntmps46
  go_wp2_with (at_builtin; refine wpList_append_run rfl (.tmp 5) (.tmp 6) 66 rfl _ _ _ _ rfl rfl hrun ?_)
  go_ret
  exact H.out
/-- what a space's clone leaves -/
def SpC (w : World) (B : Bts) (ns : List Nat) (ps : List Pg) (e : Ending) (w' : World) : Prop := ∃ s' : SpAt, e = .returned (.pointer (some ⟨s'.p, 0, none⟩)) ∧ IsS w' s' B ns ps ∧ w.heap.size ≤ s'.p ∧ w.heap.size ≤ s'.pm ∧ w.heap.size ≤ s'.g ∧ w.heap.size ≤ s'.gp ∧ w.heap.size ≤ s'.gb ∧ Below w.heap.size w w'
theorem IsS.clone_ends {w w1 w2 w3 : World} {s : SpAt} {B : Bts} {ns : List Nat} {ps : List Pg} (h : IsS w s B ns ps) {pm g2 c2 g3 c3 : Nat} (hm : NewM w w1 pm ps.length B) (hp : PgC w1 ps (.returned (.slice (some ⟨g2, 0, none⟩) ps.length c2)) w2) (hb : BdC w2 ns (.returned (.slice (some ⟨g3, 0, none⟩) (ns.length + 1) c3)) w3) :
    SpC w B ns ps (.returned (.pointer (some ⟨w3.heap.size, 0, none⟩))) (w3.alloc (.cells #[.pointer (some ⟨pm, 0, none⟩), .slice (some ⟨g2, 0, none⟩) ps.length c2, .slice (some ⟨g3, 0, none⟩) (ns.length + 1) c3] 77)) := by
  obtain ⟨g1, c1, m1, m2, m3, m4⟩ := hm
  obtain ⟨g2', c2', e2, ⟨cur2, p1, p2⟩, p3, p4, p5⟩ := hp
  injection e2 with e2
  injection e2 with e2 _ e2c
  injection e2 with e2
  injection e2 with e2
  subst e2; subst e2c
  obtain ⟨g3', c3', e3, ⟨cur3, b1, b2⟩, b3, b4⟩ := hb
  injection e3 with e3
  injection e3 with e3 _ e3c
  injection e3 with e3
  injection e3 with e3
  subst e3; subst e3c
  have s1 := m2.size
  have s2 := p5.size
  have s3 := b4.size
  have m5 := (m1.below p5).below (b4)
  have l1 := m5.lt
  have p6 := (b4.block _ (block_lt p1)).trans p1
  refine ⟨⟨w3.heap.size, pm, g1, c1, g2, c2, g3, c3⟩, rfl, ⟨block_new _ _, m5.below ((Below.refl _ w3).alloc (Nat.le_refl _) _), ⟨cur2, block_alloc p6 _, p2⟩, ⟨cur3, block_alloc b1 _, b2⟩, h.sum, p3, h.few, h.each⟩, by show _ ≤ w3.heap.size; omega, m3, m4, by show _ ≤ g2; omega, by show _ ≤ g3; omega, ?_⟩
  exact ((m2.trans (p5.mono s1)).trans (b4.mono (by omega))).alloc (by omega) _
theorem SpC.drew {w : World} {B : Bts} {ns : List Nat} {ps : List Pg} {e : Ending} {w' : World} (h : SpC w.drew B ns ps e w') : SpC w B ns ps e w' := by
  obtain ⟨s', h1, h2, h3, h4, h5, h6, h7, h8⟩ := h
  have bd : Below w.heap.size w w.drew := ⟨rfl, rfl, rfl, Nat.le_refl _, fun _ _ => rfl⟩
  exact ⟨s', h1, h2, h3, h4, h5, h6, h7, bd.trans h8⟩
/-- a space's own cells -/
def Sel (s : SpAt) (n n3 : Nat) (W : World) : Prop := W.cell? ⟨s.p, 0, none⟩ = some (.pointer (some ⟨s.pm, 0, none⟩)) ∧ W.cell? ⟨s.p, 1, none⟩ = some (.slice (some ⟨s.gp, 0, none⟩) n s.cp) ∧ W.cell? ⟨s.p, 2, none⟩ = some (.slice (some ⟨s.gb, 0, none⟩) n3 s.cb)
theorem clone_nest (w : World) (s : SpAt) (B : Bts) (ns : List Nat) (ps : List Pg) (h : IsS w s B ns ps) :
    Calls Try.prog 44 #[.pointer (some ⟨s.pm, 0, none⟩)] w.drew fun e u => ∃ pm, e = .returned (.pointer (some ⟨pm, 0, none⟩)) ∧ Sel s ps.length (ns.length + 1) u ∧
      Hid (Calls Try.prog 45 #[.slice (some ⟨s.gp, 0, none⟩) ps.length s.cp] u fun e u2 => ∃ g2 c2, e = .returned (.slice (some ⟨g2, 0, none⟩) ps.length c2) ∧ Sel s ps.length (ns.length + 1) u2 ∧
        Hid (Calls Try.prog 46 #[.slice (some ⟨s.gb, 0, none⟩) (ns.length + 1) s.cb] u2 fun e u3 => ∃ g3 c3, e = .returned (.slice (some ⟨g3, 0, none⟩) (ns.length + 1) c3) ∧ Sel s ps.length (ns.length + 1) u3 ∧ (∀ o, Sel s ps.length (ns.length + 1) (u3.alloc o)) ∧
          Hid (SpC w B ns ps (.returned (.pointer (some ⟨u3.heap.size, 0, none⟩))) (u3.alloc (.cells #[.pointer (some ⟨pm, 0, none⟩), .slice (some ⟨g2, 0, none⟩) ps.length c2, .slice (some ⟨g3, 0, none⟩) (ns.length + 1) c3] 77))))) := by
  have bd : Below w.heap.size w w.drew := ⟨rfl, rfl, rfl, Nat.le_refl _, fun _ _ => rfl⟩
  have hd := h.below bd
  have hs : ps.length ≤ 128 := by
    rw [h.sum]
    have := bnd_le16 ns (fun x hx => (h.each x hx).2) ns.length
    have h9 := h.few
    unfold bnd at this
    rw [List.take_length] at this
    omega
  have SEL : ∀ W, Below w.heap.size w W → Sel s ps.length (ns.length + 1) W := fun W hW => (h.below hW).cells
  refine (clone_any _ _ _ _ _ w.drew hd.mem).mono fun e u ⟨pm, e1, hm⟩ => ?_
  have bu : Below w.heap.size w u := by obtain ⟨_, _, _, b, _⟩ := hm; exact bd.trans b
  refine ⟨pm, e1, SEL u bu, Lib.hid ?_⟩
  have hu := h.below bu
  refine (pgclone_any (fun b => b = s.gp) u s.gp 0 s.cp ps ⟨_, s.cp, rfl, h.room, fun _ => ⟨s.gp, 0, rfl, rfl, hu.lt.2.2.2.1, fun j hj => by rw [Nat.zero_add]; exact hu.page j hj⟩⟩ h.mem.lo hs).mono fun e u2 hp => ?_
  have bu2 : Below w.heap.size w u2 := by obtain ⟨_, _, _, _, _, _, b⟩ := hp; exact bu.trans (b.mono bu.size)
  obtain ⟨g2, c2, rfl⟩ : ∃ g c, e = .returned (.slice (some ⟨g, 0, none⟩) ps.length c) := by obtain ⟨g, c, e1, _⟩ := hp; exact ⟨g, c, e1⟩
  refine ⟨g2, c2, rfl, SEL u2 bu2, Lib.hid ?_⟩
  refine (bdclone_any u2 s B ns ps (h.below bu2)).mono fun e u3 hb => ?_
  have bu3 : Below w.heap.size w u3 := by obtain ⟨_, _, _, _, _, b⟩ := hb; exact bu2.trans (b.mono bu2.size)
  obtain ⟨g3, c3, rfl⟩ : ∃ g c, e = .returned (.slice (some ⟨g, 0, none⟩) (ns.length + 1) c) := by obtain ⟨g, c, e1, _⟩ := hb; exact ⟨g, c, e1⟩
  exact ⟨g3, c3, rfl, SEL u3 bu3, fun o => SEL _ (bu3.alloc bu3.size o), Lib.hid (hd.clone_ends hm hp hb).drew⟩
set_option maxRecDepth 20000 in
set_option maxHeartbeats 4000000 in
theorem sclone_any (w : World) (s : SpAt) (B : Bts) (ns : List Nat) (ps : List Pg) (h : IsS w s B ns ps) : Calls Try.prog 17 #[.pointer (some ⟨s.p, 0, none⟩)] w (SpC w B ns ps) := by
  have K := clone_nest w s B ns ps h
  unfold Sel at K
  have K1 := Lib.hid K
  have tS0 := h.cells
  have tS1 : w.drew.cell? ⟨s.p, 0, none⟩ = some (.pointer (some ⟨s.pm, 0, none⟩)) ∧ w.drew.cell? ⟨s.p, 1, none⟩ = some (.slice (some ⟨s.gp, 0, none⟩) ps.length s.cp) ∧ w.drew.cell? ⟨s.p, 2, none⟩ = some (.slice (some ⟨s.gb, 0, none⟩) (ns.length + 1) s.cb) := tS0
  generalize SpC w B ns ps = R at *
  generalize ps.length = n at *
  generalize ns.length + 1 = n3 at *
  clear h K
  go_enter Try.func17, Try.ntmps17
  go_wp2
  go_region_held3 (fun W => W.cell? ⟨s.p, 0, none⟩ = some (.pointer (some ⟨s.pm, 0, none⟩)) ∧ W.cell? ⟨s.p, 1, none⟩ = some (.slice (some ⟨s.gp, 0, none⟩) n s.cp) ∧ W.cell? ⟨s.p, 2, none⟩ = some (.slice (some ⟨s.gb, 0, none⟩) n3 s.cb)) (with_reducible first | exact tS0 | exact tS1 | exact tS2 | exact tS3 | exact tS4 | exact tS5 _) (first
    | (go_at_call 44; with_reducible refine K1.out.mono ?_; rintro e u ⟨pm, rfl, tS2, K2⟩)
    | (go_at_call 45; with_reducible refine K2.out.mono ?_; rintro e u2 ⟨g2, y2, rfl, tS3, K3⟩)
    | (go_at_call 46; with_reducible refine K3.out.mono ?_; rintro e u3 ⟨g3, y3, rfl, tS4, tS5, HE⟩))
  all_goals go_wp2
  all_goals exact HE.out
end Go.Proofs.Ytedhefidfepclaa
