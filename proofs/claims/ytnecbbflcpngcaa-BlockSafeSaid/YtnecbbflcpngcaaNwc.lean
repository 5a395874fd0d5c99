/- A disk made, armed and cloned. Conditions: strings and choices are few enough for a machine. -/
import Derived.Test.YtnecbbflcpngcaaOpr
namespace Go.Proofs.Ytnecbbflcpngcaa
open Go.RowKit Go.Maps
set_option maxRecDepth 20000
set_option linter.unusedVariables false

theorem CV.take {w : World} {G : Nat → Prop} {q : Option Addr} {n cap : Nat} {ch : List Int} (h : CV w G (.slice q n cap) ch) (m : Nat) (hm : m ≤ ch.length) : CV w G (.slice q m cap) (ch.take m) := by
  obtain ⟨q', cap', e, h2, h3⟩ := h
  injection e with e1 e2 e3
  subst e1 e3
  have hl : (ch.take m).length = m := by simp; omega
  refine ⟨q, cap, by rw [hl], by omega, fun hne => ?_⟩
  have hne2 : ch ≠ [] := fun e => by subst e; simp at hne
  obtain ⟨b, o, hq, hG, hlt, hc⟩ := h3 hne2
  refine ⟨b, o, hq, hG, hlt, fun j hj => ?_⟩
  rw [hc j (by omega)]
  congr 2
  rw [List.getD_eq_getElem?_getD, List.getD_eq_getElem?_getD, List.getElem?_take, if_pos (by omega)]
theorem CV.len {w : World} {G : Nat → Prop} {q : Option Addr} {n cap : Nat} {ch : List Int} (h : CV w G (.slice q n cap) ch) : n = ch.length ∧ n ≤ cap := by
  obtain ⟨q', cap', e, h2, h3⟩ := h
  injection e with e1 e2 e3
  subst e2 e3
  exact ⟨rfl, h2⟩
set_option maxHeartbeats 2000000 in
set_option maxRecDepth 20000 in
theorem arm_any (F : Nat → Prop) (p : Nat) (S : St) (w : World) (h : IsD w F p S) (hF : ∀ k, F k → k < w.heap.size) (n : Int) (hn : -9223372036854775808 ≤ n ∧ n < 9223372036854775808) (G : Nat → Prop) (v : Value) (ch : List Int) (hcv : CV w G v ch) (hG : ∀ k, G k → k ≠ p) (hci : ∀ x ∈ ch, -9223372036854775808 ≤ x ∧ x < 9223372036854775808) :
    Calls Try.prog 58 #[.pointer (some ⟨p, 0, none⟩), .int .i64 n, v] w fun e w' => e = .returned (.int .i64 (S.arm n ch).2) ∧ To F w w' p (S.arm n ch).1 := by
  obtain ⟨q, nn, cap0, hv⟩ : ∃ q n cap, v = .slice q n cap := by obtain ⟨q, cap, e, _⟩ := hcv; exact ⟨_, _, _, e⟩
  subst hv
  obtain ⟨hnn, hncap⟩ := hcv.len
  obtain ⟨B, hB⟩ : ∃ B, B = w.heap.size := ⟨_, rfl⟩
  obtain ⟨w3, hw3⟩ : ∃ w3, w3 = w.alloc (.cells #[.int .i64 n] 3) := ⟨_, rfl⟩
  have hb3 : Below w.heap.size w w3 := by subst hw3; exact (Below.refl _ w).alloc (Nat.le_refl _) _
  have k0 : w3.cell? ⟨B, 0, none⟩ = some (.int .i64 n) := by subst hw3 hB; exact cell_box _ _ _
  have i3 := h.below hb3
  have hwhy := refusal90 F p S w3 i3 _ _ (why90 w3 B n k0 hn)
  obtain ⟨r, hr⟩ : ∃ r, r = (if S.dead = true then (2 : Int) else if n < 0 then 1 else 0) := ⟨_, rfl⟩
  rw [← hr] at hwhy
  have HH := Lib.hid (And.intro h (And.intro hb3 (And.intro k0 (And.intro i3 (And.intro hcv (And.intro hG (And.intro hci hF)))))))
  have HR := Lib.hid hr
  have HY := Lib.hid hwhy
  have HW3 := Lib.hid hw3
  have HB := Lib.hid hB
  have HN := Lib.hid hnn
  clear h hb3 k0 i3 hr hwhy hw3 hB hcv hG hci hnn hF
  by_cases hz : r = 0
  · subst hz
    have hrr := HR.out
    have q1 : ¬ S.dead = true := fun q => by rw [if_pos q] at hrr; omega
    rw [if_neg q1] at hrr
    have q2 : ¬ n < 0 := fun q => by rw [if_pos q] at hrr; omega
    by_cases n0 : n = 0
    · subst n0
      have ewr : S.arm 0 ch = ({ S with armed := 0, ch := [] }, 0) := by unfold St.arm; rw [if_neg q1, if_neg q2, if_pos rfl]
      rw [ewr]
      clear q1 q2 hrr ewr hn
      go_enter Try.func58, Try.ntmps58
      go_wp2_with (fail)
      rw [← HB.out, ← HW3.out]
      refine HY.out.mono ?_
      rintro e w4 ⟨rfl, hb4⟩
      have hb04 : Below w.heap.size w w4 := HH.out.2.1.trans (hb4.mono HH.out.2.1.size)
      have kd := disarm_any F p S w4 (HH.out.1.below hb04)
      have b0 := cell_below HH.out.2.2.1 hb4
      have hl4 := HH.out.1.lt.1
      have hBp : B ≠ p := by rw [HB.out]; omega
      have HB4 := Lib.hid (And.intro hb04 hBp)
      have HBK : Hid (∀ W, Ch F w4 W → W.cell? ⟨B, 0, none⟩ = w4.cell? ⟨B, 0, none⟩) := fun W hW => by
        have hl := block_lt_of_cell b0
        simp only [World.cell?, hW.block B hl (fun q => by have := HH.out.2.2.2.2.2.2.2 B q; rw [HB.out] at this; omega)]
      clear hb04 hl4 hBp
      go_wp2_with (fail)
      refine kd.mono ?_
      rintro e w5 ⟨rfl, i5, c5, s5⟩
      have b5 : w5.cell? ⟨B, 0, none⟩ = some (.int .i64 0) := (HBK.out w5 c5).trans b0
      go_wp2
      go_ret
      exact ⟨rfl, To.after_below HB4.out.1 ⟨F, i5, Gr.refl _ _ _, c5⟩⟩
    · obtain ⟨a, ha⟩ : ∃ a : Nat, n = (a : Int) := ⟨n.toNat, by omega⟩
      subst ha
      have ewr : S.arm (a : Int) ch = ({ S with armed := a, ch := ch.take S.count }, 0) := by unfold St.arm; rw [if_neg q1, if_neg q2, if_neg n0, Int.toNat_natCast]
      rw [ewr]
      have hap : (0 : Int) < (a : Int) := by omega
      have han : a < 9223372036854775808 := by omega
      clear q1 q2 hrr ewr hn n0
      go_enter Try.func58, Try.ntmps58
      go_wp2_with (fail)
      rw [← HB.out, ← HW3.out]
      refine HY.out.mono ?_
      rintro e w4 ⟨rfl, hb4⟩
      have hb04 : Below w.heap.size w w4 := HH.out.2.1.trans (hb4.mono HH.out.2.1.size)
      have i4 := HH.out.1.below hb04
      have kd := disarm_own F p S w4 i4
      have b0 := cell_below HH.out.2.2.1 hb4
      have HB4 := Lib.hid hb04
      have HBK : Hid (∀ W, Ch F w4 W → W.cell? ⟨B, 0, none⟩ = w4.cell? ⟨B, 0, none⟩) := fun W hW => by
        have hl := block_lt_of_cell b0
        simp only [World.cell?, hW.block B hl (fun q => by have := HH.out.2.2.2.2.2.2.2 B q; rw [HB.out] at this; omega)]
      have HCV : Hid (CV w4 G (.slice q nn cap0) ch) := HH.out.2.2.2.2.1.below hb04
      clear hb04 i4
      go_wp2_with (fail)
      refine kd.mono ?_
      rintro e w5 ⟨rfl, i5, c5, s5, o5⟩
      have b5 : w5.cell? ⟨B, 0, none⟩ = some (.int .i64 (a : Int)) := (HBK.out w5 c5).trans b0
      obtain ⟨sb, cap, mb, cv, hd, hc, h1, h2, h3⟩ := i5
      have f3 := hd.cells.2.2.2.2.2 3
      have c3 := hd.cells.2.2.2.1
      have d6 := hd.set3 a han
      obtain ⟨w6, hw6⟩ : ∃ w6, w6 = w5.setCell ⟨p, 3, none⟩ (.int .i64 (a : Int)) := ⟨_, rfl⟩
      rw [← hw6] at d6
      have i6 : IsD w6 F p { S with armed := a, ch := [] } := ⟨sb, cap, mb, cv, d6, by rw [hw6]; exact hc.setCell (fun k hk => hk.2.1) _, h1, h2, h3⟩
      have c6 : Ch F w4 w6 := by rw [hw6]; exact c5.setCell h1 _ _
      have s6 : w6.heap.size = w4.heap.size := by rw [hw6, setCell_size, s5]
      have kc := count_any F p _ w6 i6
      change Calls Try.prog 38 #[.pointer (some ⟨p, 0, none⟩)] w6 fun e w' => e = .returned (.int .i64 (S.count : Int)) ∧ w6 = w' at kc
      obtain ⟨m, hm⟩ : ∃ m, m = min nn S.count := ⟨_, rfl⟩
      have hmm : min (nn : Int) (S.count : Int) = (m : Int) := by omega
      have hnl := HN.out
      have HMV : Hid (m ≤ nn ∧ ch.take m = ch.take S.count) := ⟨by omega, by
        rw [hm, hnl]
        by_cases q : ch.length ≤ S.count
        · rw [Nat.min_eq_left q, List.take_length, List.take_of_length_le q]
        · rw [Nat.min_eq_right (by omega)]⟩
      have hcv6 : CV w6 G (.slice q m cap0) (ch.take m) := by
        have e4 : CV w6 G (.slice q nn cap0) ch := HCV.out.of_heap (by omega) (fun k hk hkG => by
          have hkp := HH.out.2.2.2.2.2.1 k hkG
          rw [hw6, block_setCell_other hkp]; exact o5 k hkp)
        exact e4.take m (by omega)
      have hmcap : m ≤ cap0 := by omega
      have kcl := cloneI_any G _ _ w6 hcv6 (by simp; have := i6.ok.hi; change S.count ≤ 4096 at this; omega)
      have c4' := d6.cells.2.2.2.2.1
      have HD6 := Lib.hid (And.intro d6 (And.intro i6 (And.intro c6 (And.intro s6 (And.intro h1 (And.intro h2 h3))))))
      have hw6s : w5.setCell ⟨p, 3, none⟩ (.int .i64 (a : Int)) = w6 := hw6.symm
      have HKL := Lib.hid kcl
      have f4 := HD6.out.1.cells.2.2.2.2.2 4
      clear hd hc h1 h2 h3 d6 i6 c6 s6 hcv6 hm hnl c5 s5 hw6 o5 kcl kd b0
      go_wp2_with (go_at_call 38; refine kc.mono ?_; rintro e w' ⟨rfl, rfl⟩)
      refine HKL.out.mono ?_
      rintro e w8 ⟨v', rfl, hcv8, hb8⟩
      have hcv8' := hcv8
      obtain ⟨q8, cap8, hv8, _⟩ := hcv8'
      have d8 := HD6.out.1.below hb8
      have f4 := d8.cells.2.2.2.2.2 4
      have c4 := d8.cells.2.2.2.2.1
      have hok8 : ∀ x ∈ ch.take m, -9223372036854775808 ≤ x ∧ x < 9223372036854775808 := fun x hx => HH.out.2.2.2.2.2.2.1 x (List.mem_of_mem_take hx)
      have d9 := d8.set4 v' (ch.take m) hok8 (by rw [HMV.out.2]; simp; have := HD6.out.1.ok.hi; change S.count ≤ 4096 at this; omega)
      have hG8 : ∀ k, w6.heap.size ≤ k → k ≠ p ∧ k ≠ sb ∧ k ≠ mb := fun k hk => by
        have h1 := block_lt HD6.out.1.blk
        have h2 := HD6.out.1.row.lt
        have h3 := HD6.out.1.map.lt
        omega
      have hs8 := hb8.size
      have i9 : IsD (w8.setCell ⟨p, 4, none⟩ v') (fun k => F k ∨ (w6.heap.size ≤ k ∧ k < w8.heap.size)) p { S with armed := a, ch := ch.take S.count } := by
        rw [← HMV.out.2]
        refine ⟨sb, cap, mb, v', d9, ?_, .inl HD6.out.2.2.2.2.1, .inl HD6.out.2.2.2.2.2.1, .inl HD6.out.2.2.2.2.2.2⟩
        refine CV.mono ((hcv8.lt).setCell (a := ⟨p, 4, none⟩) (fun k hk => (hG8 k hk.1).1) v') (fun k hk => ⟨.inr hk, hG8 k hk.1⟩)
      have c9 : Ch F w4 (w8.setCell ⟨p, 4, none⟩ v') := (HD6.out.2.2.1.then_below hb8).setCell HD6.out.2.2.2.2.1 _ _
      have g9 : Gr F (fun k => F k ∨ (w6.heap.size ≤ k ∧ k < w8.heap.size)) w4 (w8.setCell ⟨p, 4, none⟩ v') := fun k hk => by
        rcases hk with hk | hk
        · exact .inl hk
        · right; rw [setCell_size]; have := HD6.out.2.2.2.1; omega
      have HX := Lib.hid (And.intro i9 (And.intro c9 g9))
      generalize (ch.take m).length = L8 at hv8
      rw [hv8] at HX ⊢
      clear d8 hok8 d9 hG8 hs8 i9 c9 g9 hcv8 hb8 b5 c3 f3 kc hmm hmcap c4' hw6s hv8
      go_wp2
      go_ret
      exact ⟨rfl, To.after_below HB4.out ⟨_, HX.out.1, HX.out.2.2, HX.out.2.1⟩⟩
  · have ewr : S.arm n ch = (S, r) := by
      unfold St.arm
      have hrr := HR.out
      split
      · rename_i q; rw [if_pos q] at hrr; rw [hrr]
      · rename_i q; rw [if_neg q] at hrr
        split
        · rename_i q; rw [if_pos q] at hrr; rw [hrr]
        · rename_i q; rw [if_neg q] at hrr; exact absurd hrr hz
    rw [ewr]
    go_enter Try.func58, Try.ntmps58
    go_wp2_with (fail)
    rw [← HB.out, ← HW3.out]
    refine HY.out.mono ?_
    rintro e w4 ⟨rfl, hb4⟩
    clear hn
    go_wp2
    go_ret
    exact ⟨rfl, To.of_below HH.out.1 (HH.out.2.1.trans (hb4.mono HH.out.2.1.size))⟩
set_option maxRecDepth 20000 in
set_option maxHeartbeats 1000000 in
theorem new_any (s : ByteArray) (w : World) (hs : s.size ≤ 140737488355328) :
    Calls Try.prog 17 #[.string s] w fun e w' => Below w.heap.size w w' ∧ if s.size = 0 ∨ s.size % 128 ≠ 0 ∨ 524288 < s.size then e = .returned (.tuple #[.pointer none, .int .i64 70])
      else ∃ F p, e = .returned (.tuple #[.pointer (some ⟨p, 0, none⟩), .int .i64 0]) ∧ IsD w' F p (newS s.data.toList) ∧ ∀ k, F k → w.heap.size ≤ k ∧ k < w'.heap.size := by
  by_cases a : s.size = 0
  · simp only [if_pos (show s.size = 0 ∨ s.size % 128 ≠ 0 ∨ 524288 < s.size from .inl a)]
    go_enter Try.func17, Try.ntmps17
    go_wp2
    go_ret2
    exact ⟨Below.refl _ _, rfl⟩
  · have hse : ¬ s = ByteArray.empty := fun e => a (by rw [e]; rfl)
    by_cases b : s.size % 128 = 0
    · by_cases c : 524288 < s.size
      · simp only [if_pos (show s.size = 0 ∨ s.size % 128 ≠ 0 ∨ 524288 < s.size from .inr (.inr c))]
        obtain ⟨r, hr⟩ : ∃ r : Nat, r = s.size % 128 := ⟨_, rfl⟩
        have et : (s.size : Int).tmod 128 = (r : Int) := by rw [Int.tmod_eq_emod_of_nonneg (by omega)]; omega
        have hrz : (r : Int) = 0 := by omega
        clear hr
        have c' : (524288 : Int) < (s.size : Int) := by omega
        have a' : ¬ (s.size : Int) = 0 := by omega
        clear a b c
        go_enter Try.func17, Try.ntmps17
        go_wp2
        go_ret2
        exact ⟨Below.refl _ _, rfl⟩
      · simp only [if_neg (show ¬ (s.size = 0 ∨ s.size % 128 ≠ 0 ∨ 524288 < s.size) by omega)]
        obtain ⟨cap, w1, hcv, hrow, hb1, hs1⟩ := RowB.made w s hs
        have hmade := MapA.made w1 (s.size / 128)
        have hmm := @run_makeMap Try.prog
        have hb2 : Below w.heap.size w (w1.alloc (.map #[] 0)) := hb1.alloc (by omega) _
        obtain ⟨w3, hw3⟩ : ∃ w3, w3 = (w1.alloc (.map #[] 0)).alloc (.cells (dcells w.heap.size s.size cap w1.heap.size false 0 (.slice none 0 0)) 91) := ⟨_, rfl⟩
        have hsz2 : (w1.alloc (.map #[] 0)).heap.size = w1.heap.size + 1 := by simp
        have hb3 : Below w.heap.size w w3 := by rw [hw3]; exact hb2.alloc (by omega) _
        have hp3 : w3.heap[w1.heap.size + 1]? = some (.cells (dcells w.heap.size s.size cap w1.heap.size false 0 (.slice none 0 0)) 91 (0, 0)) := by rw [hw3, ← hsz2]; exact block_new _ _
        have hok : (newS s.data.toList).ok := St.ok.new (by rw [baList]; exact a) (by rw [baList]; exact b) (by rw [baList]; omega)
        have hcount : (newS s.data.toList).count = s.size / 128 := by show s.data.toList.length / 128 = _; rw [baList]
        have hd : D w3 (w1.heap.size + 1) w.heap.size cap w1.heap.size (.slice none 0 0) (newS s.data.toList) := by
          refine ⟨?_, ?_, ?_, hok, by omega⟩
          · rw [hp3]; show some (Obj.cells (dcells w.heap.size s.size cap w1.heap.size false 0 (.slice none 0 0)) 91 (0, 0)) = some (Obj.cells (dcells w.heap.size s.data.toList.length cap w1.heap.size false 0 (.slice none 0 0)) 91 (0, 0)); rw [baList]
          · refine (hrow.of_heap (w' := w1.alloc (.map #[] 0)) (Below.heap_alloc _ _ _ hrow.lt)).of_heap ?_
            rw [hw3]; exact Below.heap_alloc _ _ _ (by omega)
          · rw [hcount]; refine hmade.of_heap ?_; rw [hw3]; exact Below.heap_alloc _ _ _ (by omega)
        have HX : Hid (Below w.heap.size w w3 ∧ IsD w3 (fun k => w.heap.size ≤ k ∧ k < w3.heap.size) (w1.heap.size + 1) (newS s.data.toList)) := ⟨hb3, _, _, _, _, hd, CV.nil _ _, ⟨by omega, block_lt hp3⟩, ⟨by omega, by have := block_lt hp3; omega⟩, ⟨by omega, by have := block_lt hp3; omega⟩⟩
        have HW := Lib.hid hw3
        have HSZ := Lib.hid (And.intro hsz2 hs1)
        obtain ⟨r, hr⟩ : ∃ r : Nat, r = s.size % 128 := ⟨_, rfl⟩
        have et : (s.size : Int).tmod 128 = (r : Int) := by rw [Int.tmod_eq_emod_of_nonneg (by omega)]; omega
        have hrz : (r : Int) = 0 := by omega
        clear hr
        have c' : ¬ (524288 : Int) < (s.size : Int) := by omega
        have a' : ¬ (s.size : Int) = 0 := by omega
        clear hrow hmade hb2 hb3 hp3 hok hcount hd hsz2 hb1 hs1 hw3 a b c hs
        go_enter Try.func17, Try.ntmps17
        go_wp2
        go_ret2
        have hx := HX.out
        rw [HW.out] at hx
        exact ⟨hx.1, _, _, rfl, hx.2, fun k hk => hk⟩
    · simp only [if_pos (show s.size = 0 ∨ s.size % 128 ≠ 0 ∨ 524288 < s.size from .inr (.inl b))]
      obtain ⟨r, hr⟩ : ∃ r : Nat, r = s.size % 128 := ⟨_, rfl⟩
      have et : (s.size : Int).tmod 128 = (r : Int) := by rw [Int.tmod_eq_emod_of_nonneg (by omega)]; omega
      have hrz : ¬ (r : Int) = 0 := by omega
      clear hr
      have a' : ¬ (s.size : Int) = 0 := by omega
      clear a b hs
      go_enter Try.func17, Try.ntmps17
      go_wp2
      go_ret2
      exact ⟨Below.refl _ _, rfl⟩
end Go.Proofs.Ytnecbbflcpngcaa
