/- The calls on a disk: what each returns and what the disk is then. Conditions: strings are few enough for a machine. -/
import Derived.Test.YtnecbbflcpngcaaCll
import Derived.Deep.RegionHeld3
namespace Go.Proofs.Ytnecbbflcpngcaa
open Go.RowKit Go.Maps
set_option maxRecDepth 20000
set_option linter.unusedVariables false

theorem cell_alloc {w : World} {a : Addr} {v : Value} (h : w.cell? a = some v) (o : Obj) : (w.alloc o).cell? a = some v := by
  have := block_lt_of_cell h
  rw [← h]; simp only [World.cell?, Below.heap_alloc w o a.block this]
theorem cell_below {w w' : World} {a : Addr} {v : Value} (h : w.cell? a = some v) (hb : Below w.heap.size w w') : w'.cell? a = some v := by
  have := block_lt_of_cell h
  rw [← h]; simp only [World.cell?, hb.block a.block this]
theorem cell_grown {w w' : World} {a : Addr} {v : Value} {mb : Nat} (h : w.cell? a = some v) (hm : ∃ es ck, w.heap[mb]? = some (.map es ck)) (hg : w.grownBy w' (some mb)) : w'.cell? a = some v := by
  have hl := block_lt_of_cell h
  have hne : a.block ≠ mb := fun e => by
    obtain ⟨es, ck, hm⟩ := hm
    simp [World.cell?, e, hm] at h
  rw [← h]; simp only [World.cell?, hg.block a.block hl (fun e => hne (Option.some.inj e))]
theorem cell_box (w : World) (v : Value) (t : TypeId) : (w.alloc (.cells #[v] t)).cell? ⟨w.heap.size, 0, none⟩ = some v := by
  rw [cell_of_row _ _ _ _ _ _ (block_new w _)]; rfl
set_option maxHeartbeats 1000000 in
theorem crash_any (F : Nat → Prop) (p : Nat) (S : St) (w : World) (h : IsD w F p S) (G : Nat → Prop) (v : Value) (ch : List Int) (hcv : CV w G v ch) :
    Calls Try.prog 35 #[.pointer (some ⟨p, 0, none⟩), v] w fun e w' => e = .returned (.int .i64 (S.crash ch).2) ∧ To F w w' p (S.crash ch).1 := by
  have k := lose_any F p S w h G v ch hcv
  have HI := Lib.hid h
  obtain ⟨q, n, cap, hv⟩ : ∃ q n cap, v = .slice q n cap := by obtain ⟨q, cap, e, _⟩ := hcv; exact ⟨_, _, _, e⟩
  obtain ⟨sb, cap0, mb, cv, hd, hc, h1, h2, h3⟩ := h
  obtain ⟨c0, c1, c2, c3, c4, hf⟩ := hd.cells
  clear hd hc hf c0 c1 c3 c4 hcv
  subst hv
  unfold St.crash
  by_cases hx : S.dead = true
  · rw [if_pos hx]
    rw [hx] at c2
    go_enter Try.func35, Try.ntmps35
    go_wp2
    go_ret
    exact ⟨rfl, To.refl HI.out⟩
  · rw [if_neg hx]
    rw [show S.dead = false by simpa using hx] at c2
    go_enter Try.func35, Try.ntmps35
    go_wp2_with (go_at_call 70; refine k.mono ?_; rintro e w' ⟨rfl, g⟩)
    go_ret
    exact ⟨rfl, g⟩
set_option maxHeartbeats 2000000 in
set_option maxRecDepth 20000 in
theorem write_any (F : Nat → Prop) (p : Nat) (S : St) (w : World) (h : IsD w F p S) (i : Int) (s : ByteArray) (hi : -9223372036854775808 ≤ i ∧ i < 9223372036854775808) (hsz : s.size ≤ 281474976710656) :
    Calls Try.prog 39 #[.pointer (some ⟨p, 0, none⟩), .int .i64 i, .string s] w fun e w' => e = .returned (.int .i64 (S.write i s.data.toList).2) ∧ To F w w' p (S.write i s.data.toList).1 := by
  obtain ⟨B, hB⟩ : ∃ B, B = w.heap.size := ⟨_, rfl⟩
  obtain ⟨w3, hw3⟩ : ∃ w3, w3 = ((w.alloc (.cells #[.pointer (some ⟨p, 0, none⟩)] 36)).alloc (.cells #[.int .i64 i] 3)).alloc (.cells #[.string s] 9) := ⟨_, rfl⟩
  have hb3 : Below w.heap.size w w3 := by subst hw3; exact (((Below.refl _ w).alloc (Nat.le_refl _) _).alloc (by simp) _).alloc (by simp; omega) _
  have k0 : w3.cell? ⟨B, 0, none⟩ = some (.pointer (some ⟨p, 0, none⟩)) := by subst hw3 hB; exact cell_alloc (cell_alloc (cell_box _ _ _) _) _
  have k1 : w3.cell? ⟨B + 1, 0, none⟩ = some (.int .i64 i) := by
    subst hw3 hB
    have := cell_box (w.alloc (.cells #[.pointer (some ⟨p, 0, none⟩)] 36)) (.int .i64 i) 3
    rw [show (w.alloc (.cells #[.pointer (some ⟨p, 0, none⟩)] 36)).heap.size = w.heap.size + 1 by simp] at this
    exact cell_alloc this _
  have k2 : w3.cell? ⟨B + 1 + 1, 0, none⟩ = some (.string s) := by
    subst hw3 hB
    have := cell_box ((w.alloc (.cells #[.pointer (some ⟨p, 0, none⟩)] 36)).alloc (.cells #[.int .i64 i] 3)) (.string s) 9
    rwa [show ((w.alloc (.cells #[.pointer (some ⟨p, 0, none⟩)] 36)).alloc (.cells #[.int .i64 i] 3)).heap.size = w.heap.size + 1 + 1 by simp] at this
  have i3 := h.below hb3
  have hwhy := refusal74 F p S w3 i3 _ _ _ _ (why74 F p S w3 i3 B (B + 1) (B + 1 + 1) i s k0 k1 k2 hi hsz)
  have hlt := h.lt
  have HH := Lib.hid (And.intro h (And.intro hb3 (And.intro k0 (And.intro k1 (And.intro k2 i3)))))
  have es : s.data.toList.length = s.size := baList s
  obtain ⟨r, hr⟩ : ∃ r, r = (if S.dead = true then (2 : Int) else if i < 0 ∨ (S.count : Int) ≤ i then 71 else if s.size ≠ 128 then 72 else 0) := ⟨_, rfl⟩
  rw [← hr] at hwhy
  have HR := Lib.hid hr
  have HY := Lib.hid hwhy
  have HW3 := Lib.hid hw3
  have HB := Lib.hid hB
  clear h hb3 k0 k1 k2 i3 hr hwhy hw3 hB
  by_cases hz : r = 0
  · subst hz
    have hrr := HR.out
    have q1 : ¬ S.dead = true := fun q => by rw [if_pos q] at hrr; omega
    rw [if_neg q1] at hrr
    have q2 : ¬ (i < 0 ∨ (S.count : Int) ≤ i) := fun q => by rw [if_pos q] at hrr; omega
    rw [if_neg q2] at hrr
    have q3 : s.size = 128 := by
      by_cases q : s.size = 128
      · exact q
      · rw [if_pos q] at hrr; omega
    have ewr : S.write i s.data.toList = (S.put i.toNat s.data.toList).change := by unfold St.write; rw [if_neg q1, if_neg q2, if_neg (by omega)]
    rw [ewr]
    obtain ⟨n, hn⟩ : ∃ n : Nat, i = (n : Int) := ⟨i.toNat, by omega⟩
    subst hn
    rw [Int.toNat_natCast]
    have hnc : n < S.count := by omega
    go_enter Try.func39, Try.ntmps39
    go_wp2_with (fail)
    rw [← HB.out, ← HW3.out]
    refine HY.out.mono ?_
    rintro e w4 ⟨rfl, hb4⟩
    obtain ⟨sb, cap, mb, cv, hd, hc, h1, h2, h3⟩ := HH.out.1
    have hb04 : Below w.heap.size w w4 := HH.out.2.1.trans (hb4.mono HH.out.2.1.size)
    have d4 := hd.below hb04
    have b0 := cell_below HH.out.2.2.1 hb4
    have b1 := cell_below HH.out.2.2.2.1 hb4
    have b2 := cell_below HH.out.2.2.2.2.1 hb4
    have cm := d4.cells.2.1
    have HS : Hid (∀ w5, Below w4.drew.heap.size w4.drew w5 → ∃ w6, (Instr.mapUpdate 89 (.map (some mb)) (.int .i64 (n : Int)) (.string s)).run Try.prog w5 = .ok () w6 ∧ MapA w6 mb S.count (S.put n s.data.toList).wr ∧ w5.grownBy w6 (some mb) ∧ w6.heap.size = w5.heap.size ∧ ∃ es ck, w5.heap[mb]? = some (.map es ck)) := fun w5 hb5 => by
      have hm := d4.map.of_heap (w' := w5) (hb5.block mb d4.map.lt)
      obtain ⟨w6, g1, g2, g3, g4⟩ := hm.store hd.ok.hi hnc s.data.toList (by rw [es]; unfold maxLen; omega)
      rw [ofL_of] at g1
      exact ⟨w6, g1, g2, g3, g4, hm.is_map⟩
    have HK : Hid (∀ W, Calls Try.prog 76 #[.string s] W fun e w' => e = .returned (.string s) ∧ Below W.heap.size W w') := fun W => cloneS_any s W (by omega)
    have HD := Lib.hid (And.intro hd (And.intro hc (And.intro h1 (And.intro h2 (And.intro h3 (And.intro hb04 d4))))))
    have HC : Hid (w4.drew.cell? ⟨B, 0, none⟩ = some (.pointer (some ⟨p, 0, none⟩)) ∧ w4.drew.cell? ⟨B + 1, 0, none⟩ = some (.int .i64 (n : Int)) ∧ w4.drew.cell? ⟨B + 1 + 1, 0, none⟩ = some (.string s) ∧ w4.drew.cell? ⟨p, 1, none⟩ = some (.map (some mb))) := ⟨b0, b1, b2, cm⟩
    have HQ := Lib.hid (And.intro hnc q3)
    clear hd hc hb04 d4 b0 b1 b2 cm hrr q1 q2 hnc q3 ewr hi hsz es h1 h2 h3 hb4 HY
    go_wp2_with (fail)
    go_region_held3 (fun w' => w'.cell? ⟨B, 0, none⟩ = some (.pointer (some ⟨p, 0, none⟩)) ∧ w'.cell? ⟨B + 1, 0, none⟩ = some (.int .i64 (n : Int)) ∧ w'.cell? ⟨B + 1 + 1, 0, none⟩ = some (.string s) ∧ w'.cell? ⟨p, 1, none⟩ = some (.map (some mb)))
      (first
        | exact HC.out
        | exact ⟨cell_below HC.out.1 hb5, cell_below HC.out.2.1 hb5, cell_below HC.out.2.2.1 hb5, cell_below HC.out.2.2.2 hb5⟩
        | exact ⟨cell_grown (cell_below HC.out.1 hb5) HW6.out.2.2.2 HW6.out.2.1, cell_grown (cell_below HC.out.2.1 hb5) HW6.out.2.2.2 HW6.out.2.1, cell_grown (cell_below HC.out.2.2.1 hb5) HW6.out.2.2.2 HW6.out.2.1, cell_grown (cell_below HC.out.2.2.2 hb5) HW6.out.2.2.2 HW6.out.2.1⟩)
      (first
        | (go_at_call 76; (with_reducible refine (HK.out _).mono ?_); rintro e w5 ⟨rfl, hb5⟩; obtain ⟨w6, hrun, hw6⟩ := HS.out w5 hb5; have HW6 := Lib.hid hw6; clear hw6))
    obtain ⟨hd, hc, h1, h2, h3, hb04, d4⟩ := HD.out
    have hb05 : Below w.heap.size w w5 := (below_drew hb04).trans (hb5.mono hb04.size)
    have hg6 := HW6.out.2.1
    have hpm : some p ≠ some mb := fun e => d4.nm.1 (Option.some.inj e)
    have hsm : some sb ≠ some mb := fun e => d4.nm.2 (Option.some.inj e)
    have hokp : (S.put n s.data.toList).ok := hd.ok.put HQ.out.1 (by rw [baList]; exact HQ.out.2)
    have d5 := hd.below hb05
    have d6 : D w6 p sb cap mb cv (S.put n s.data.toList) := ⟨(hg6.block p (block_lt d5.blk) hpm).trans d5.blk, d5.row.of_heap (hg6.block sb d5.row.lt hsm), HW6.out.1, hokp, d5.ne⟩
    have i6 : IsD w6 F p (S.put n s.data.toList) := ⟨sb, cap, mb, cv, d6, (hc.below hb05).of_heap hg6.size (fun k hk hG => hg6.block k hk (fun e => hG.2.2.2 (Option.some.inj e))), h1, h2, h3⟩
    have c6 : Ch F w w6 := (Ch.of_below hb05).grown hg6 (fun j hj => by cases hj; exact .inl h3)
    have kc := change_any F p _ w6 i6
    have b6 : w6.cell? ⟨B, 0, none⟩ = some (.pointer (some ⟨p, 0, none⟩)) := cell_grown (cell_below HC.out.1 hb5) HW6.out.2.2.2 HW6.out.2.1
    have HX := Lib.hid c6
    clear hd hc h1 h2 h3 hb04 d4 hb05 hg6 hpm hsm hokp d5 d6 i6 c6 hb5 hrun
    go_wp2_with (go_at_call 77; refine kc.mono ?_; rintro e w7 ⟨rfl, g7⟩)
    go_ret
    exact ⟨rfl, To.trans (Gr.refl F w w6) HX.out g7⟩
  · have ewr : S.write i s.data.toList = (S, r) := by
      unfold St.write
      have hrr := HR.out
      rw [es]
      split
      · rename_i q; rw [if_pos q] at hrr; rw [hrr]
      · rename_i q; rw [if_neg q] at hrr
        split
        · rename_i q; rw [if_pos q] at hrr; rw [hrr]
        · rename_i q; rw [if_neg q] at hrr
          split
          · rename_i q; rw [if_pos q] at hrr; rw [hrr]
          · rename_i q; rw [if_neg q] at hrr; exact absurd hrr hz
    rw [ewr]
    go_enter Try.func39, Try.ntmps39
    go_wp2_with (fail)
    rw [← HB.out, ← HW3.out]
    refine HY.out.mono ?_
    rintro e w4 ⟨rfl, hb4⟩
    clear hi hsz
    go_wp2
    go_ret
    exact ⟨rfl, To.of_below HH.out.1 (HH.out.2.1.trans (hb4.mono HH.out.2.1.size))⟩
end Go.Proofs.Ytnecbbflcpngcaa
