/- A sector read, sectors flushed. No conditions. -/
import Derived.Test.YtnecbbflcpngcaaOpr
namespace Go.Proofs.Ytnecbbflcpngcaa
open Go.RowKit Go.Maps
set_option maxRecDepth 20000
set_option linter.unusedVariables false

theorem one_full_some {S : St} (h : S.ok) {i : Nat} {s : Bts} (hs : S.wr i = some s) (hi : i < S.count) : S.one full i = s := by
  rw [one_some hs]
  have h1 := (h.wr i s hs).2
  have h2 := h.len
  have h3 := sec_len (l := S.safe) (i := i) (by omega)
  unfold full
  rw [List.take_of_length_le (by omega), List.drop_of_length_le (by omega), List.append_nil]
theorem box2 {w : World} (v1 v2 : Value) (t1 t2 : TypeId) : ((w.alloc (.cells #[v1] t1)).alloc (.cells #[v2] t2)).cell? ⟨w.heap.size, 0, none⟩ = some v1 ∧ ((w.alloc (.cells #[v1] t1)).alloc (.cells #[v2] t2)).cell? ⟨w.heap.size + 1, 0, none⟩ = some v2 := by
  refine ⟨cell_alloc (cell_box _ _ _) _, ?_⟩
  have := cell_box (w.alloc (.cells #[v1] t1)) v2 t2
  rwa [show (w.alloc (.cells #[v1] t1)).heap.size = w.heap.size + 1 by simp] at this
theorem box3 {w : World} (v1 v2 v3 : Value) (t1 t2 t3 : TypeId) : (((w.alloc (.cells #[v1] t1)).alloc (.cells #[v2] t2)).alloc (.cells #[v3] t3)).cell? ⟨w.heap.size, 0, none⟩ = some v1 ∧
    (((w.alloc (.cells #[v1] t1)).alloc (.cells #[v2] t2)).alloc (.cells #[v3] t3)).cell? ⟨w.heap.size + 1, 0, none⟩ = some v2 ∧ (((w.alloc (.cells #[v1] t1)).alloc (.cells #[v2] t2)).alloc (.cells #[v3] t3)).cell? ⟨w.heap.size + 1 + 1, 0, none⟩ = some v3 := by
  refine ⟨cell_alloc (box2 _ _ _ _).1 _, cell_alloc (box2 _ _ _ _).2 _, ?_⟩
  have := cell_box ((w.alloc (.cells #[v1] t1)).alloc (.cells #[v2] t2)) v3 t3
  rwa [show ((w.alloc (.cells #[v1] t1)).alloc (.cells #[v2] t2)).heap.size = w.heap.size + 1 + 1 by simp] at this
set_option maxHeartbeats 2000000 in
set_option maxRecDepth 20000 in
theorem read_any (F : Nat → Prop) (p : Nat) (S : St) (w : World) (h : IsD w F p S) (i : Int) (hi : -9223372036854775808 ≤ i ∧ i < 9223372036854775808) :
    Calls Try.prog 72 #[.pointer (some ⟨p, 0, none⟩), .int .i64 i] w fun e w' => e = .returned (.tuple #[.string (ofL (S.read i).1), .int .i64 (S.read i).2]) ∧ Below w.heap.size w w' := by
  obtain ⟨B, hB⟩ : ∃ B, B = w.heap.size := ⟨_, rfl⟩
  obtain ⟨w3, hw3⟩ : ∃ w3, w3 = ((w.alloc (.cells #[.pointer (some ⟨p, 0, none⟩)] 36)).alloc (.cells #[.int .i64 i] 3)) := ⟨_, rfl⟩
  have hb3 : Below w.heap.size w w3 := by subst hw3; exact ((Below.refl _ w).alloc (Nat.le_refl _) _).alloc (by simp) _
  obtain ⟨k0, k1⟩ : w3.cell? ⟨B, 0, none⟩ = some (.pointer (some ⟨p, 0, none⟩)) ∧ w3.cell? ⟨B + 1, 0, none⟩ = some (.int .i64 i) := by subst hw3 hB; exact box2 _ _ _ _
  have i3 := h.below hb3
  have hwhy := refusal97 F p S w3 i3 _ _ _ (why97 F p S w3 i3 B (B + 1) i k0 k1 hi)
  have HH := Lib.hid (And.intro h (And.intro hb3 (And.intro k0 (And.intro k1 i3))))
  obtain ⟨r, hr⟩ : ∃ r, r = (if S.dead = true then (2 : Int) else if i < 0 ∨ (S.count : Int) ≤ i then 71 else 0) := ⟨_, rfl⟩
  rw [← hr] at hwhy
  have HR := Lib.hid hr
  have HY := Lib.hid hwhy
  have HW3 := Lib.hid hw3
  have HB := Lib.hid hB
  clear h hb3 k0 k1 i3 hr hwhy hw3 hB
  by_cases hz : r = 0
  · subst hz
    have hrr := HR.out
    have q1 : ¬ S.dead = true := fun q => by rw [if_pos q] at hrr; omega
    rw [if_neg q1] at hrr
    have q2 : ¬ (i < 0 ∨ (S.count : Int) ≤ i) := fun q => by rw [if_pos q] at hrr; omega
    have ewr : S.read i = (S.one full i.toNat, 0) := by unfold St.read; rw [if_neg q1, if_neg q2]
    rw [ewr]
    obtain ⟨n, hn⟩ : ∃ n : Nat, i = (n : Int) := ⟨i.toNat, by omega⟩
    subst hn
    rw [Int.toNat_natCast]
    have hnc : n < S.count := by omega
    go_enter Try.func72, Try.ntmps72
    go_wp2_with (fail)
    rw [← HB.out, ← HW3.out]
    refine HY.out.mono ?_
    rintro e w4 ⟨rfl, hb4⟩
    obtain ⟨sb, cap, mb, cv, hd, hc, h1, h2, h3⟩ := HH.out.1
    have hb04 : Below w.heap.size w w4 := HH.out.2.1.trans (hb4.mono HH.out.2.1.size)
    have d4 := hd.below hb04
    have b0 := cell_below HH.out.2.2.1 hb4
    have b1 := cell_below HH.out.2.2.2.1 hb4
    have cm := d4.cells.2.1
    have c0 := d4.cells.1
    have hlk : ∀ m, (Instr.lookup 89 (.map (some mb)) (.int .i64 (n : Int)) true).run Try.prog (w4.drewN m) = .ok (.tuple #[.string (ofL ((S.wr n).getD [])), .bool (S.wr n).isSome]) (w4.drewN m) := fun m => ((d4.map.of_heap (w' := w4.drewN m) rfl).look hd.ok.hi hnc).2
    have hok := hd.ok
    have hlen := hok.len
    have hhi := hok.hi
    have hrow := d4.row
    have hcap := hrow.le
    have hw : IntKind.i64.wrap ((128 * n : Nat) : Int) = ((128 * n : Nat) : Int) := by rw [IntKind.wrap_i64]; omega
    have hx : (n : Int) * 128 = ((128 * n : Nat) : Int) := by omega
    have hcv : ∀ W, W.heap = w4.heap → (convert 30 9 (.slice (some ⟨sb, 128 * n, none⟩) 128 (cap - 128 * n))).run Try.prog W = .ok (.string (ofL (sec S.safe n))) W := fun W hW =>
      (hrow.of_heap (w' := W) (by rw [hW])).string (w' := W) (128 * n) 128 (cap - 128 * n) (by omega)
    have HCV := Lib.hid hcv
    obtain ⟨o, hod⟩ : ∃ o, o = 128 * n := ⟨_, rfl⟩
    obtain ⟨N, hN⟩ : ∃ N, N = S.safe.length := ⟨_, rfl⟩
    rw [← hod] at hw hx HCV
    rw [← hN] at c0
    have ho1 : o ≤ N := by omega
    have ho2 : ¬ cap = o := by omega
    have ho3 : 128 ≤ cap - o := by omega
    have HX := Lib.hid (And.intro hb04 (And.intro hok (And.intro hnc hlen)))
    clear hd hc hb04 d4 hok hlen hhi hrow hcap hcv hod hN hrr q1 q2 hnc ewr hi h1 h2 h3 hb4 HY HH
    cases hwr : S.wr n with
    | some s =>
      simp only [hwr, Option.getD_some, Option.isSome_some] at hlk
      have HWR := Lib.hid hwr
      clear hwr
      go_wp2_with (fail)
      go_quiet (fail)
      go_wp2
      go_ret2
      exact ⟨by rw [one_full_some HX.out.2.1 HWR.out HX.out.2.2.1]; rfl, (below_drewN HX.out.1 _)⟩
    | none =>
      simp only [hwr, Option.getD_none, Option.isSome_none] at hlk
      have HWR := Lib.hid hwr
      have e1 := one_none (f := full) hwr
      have hbl : ∀ a b, Below w.heap.size w ((w4.drewN a).drewN b) := fun a b => below_drewN (below_drewN HX.out.1 _) _
      have HBL := Lib.hid hbl
      have hcells : ∀ m a, (w4.drewN m).cell? a = w4.cell? a := fun m a => rfl
      have cc0 : ∀ m, (w4.drewN m).cell? ⟨B, 0, none⟩ = some (.pointer (some ⟨p, 0, none⟩)) := fun m => b0
      have cc1 : ∀ m, (w4.drewN m).cell? ⟨B + 1, 0, none⟩ = some (.int .i64 (n : Int)) := fun m => b1
      have cc2 : ∀ m, (w4.drewN m).cell? ⟨p, 0, none⟩ = some (.slice (some ⟨sb, 0, none⟩) N cap) := fun m => c0
      have HC1 := Lib.hid (And.intro cc0 (And.intro cc1 cc2))
      clear hwr hcells cc0 cc1 cc2 hbl
      have HE1 := Lib.hid e1
      clear e1
      go_wp2_with (fail)
      go_quiet (fail)
      have e0 := HC1.out.1 nq
      have e1' := HC1.out.2.1 nq
      have e2 := HC1.out.2.2 nq
      have HV : Hid (∀ m, (convert 30 9 (.slice (some ⟨sb, o, none⟩) 128 (cap - o))).run Try.prog ((w4.drewN nq).drewN m) = .ok (.string (ofL (sec S.safe n))) ((w4.drewN nq).drewN m)) := fun m => HCV.out _ rfl
      have HE : Hid (∀ m, Below w.heap.size w ((w4.drewN nq).drewN m)) := fun m => HBL.out nq m
      clear hlk b0 b1 cm c0
      generalize w4.drewN nq = W at *
      have hV := HV.out
      go_wp2_with (fail)
      go_quiet (fail)
      go_wp2
      go_ret2
      exact ⟨by rw [HE1.out]; rfl, HE.out _⟩
  · have ewr : S.read i = ([], r) := by
      unfold St.read
      have hrr := HR.out
      split
      · rename_i q; rw [if_pos q] at hrr; rw [hrr]
      · rename_i q; rw [if_neg q] at hrr
        split
        · rename_i q; rw [if_pos q] at hrr; rw [hrr]
        · rename_i q; rw [if_neg q] at hrr; exact absurd hrr hz
    rw [ewr]
    go_enter Try.func72, Try.ntmps72
    go_wp2_with (fail)
    rw [← HB.out, ← HW3.out]
    refine HY.out.mono ?_
    rintro e w4 ⟨rfl, hb4⟩
    clear hi
    go_wp2
    go_ret2
    exact ⟨rfl, HH.out.2.1.trans (hb4.mono HH.out.2.1.size)⟩
theorem calm_start {S : St} (h : S.ok) (a : Nat) : S.calm a a = S := by
  have h1 : secs S.count (fun i => if a ≤ i ∧ i < a then S.one full i else sec S.safe i) = S.safe := by
    rw [secs_same (g' := sec S.safe) (fun i hi => by rw [if_neg (by omega)])]
    exact secs_self h.len
  have h2 : (fun i => if a ≤ i ∧ i < a then none else S.wr i) = S.wr := by
    funext i; rw [if_neg (by omega)]
  unfold St.calm
  rw [h1, h2]
theorem calm_safe {S : St} (h : S.ok) (a b i : Nat) (hi : i < S.count) : sec (S.calm a b).safe i = if a ≤ i ∧ i < b then S.one full i else sec S.safe i := by
  have := sec_secs (c := S.count) (g := fun i => if a ≤ i ∧ i < b then S.one full i else sec S.safe i) (fun i hi => by
    show (if a ≤ i ∧ i < b then S.one full i else sec S.safe i).length = 128
    split
    · exact S.one_len h full (fun _ => Nat.le_refl _) i hi
    · have := h.len; exact sec_len (by omega)) i hi
  exact this
theorem calm_step {S : St} (h : S.ok) {a b : Nat} (hab : a ≤ b) (hb : b < S.count) : lay (S.calm a b).safe (128 * b) ((S.wr b).getD []) = (S.calm a (b + 1)).safe := by
  have hl1 := S.calm_len h a b
  have hl2 := S.calm_len h a (b + 1)
  have hs : ((S.wr b).getD []).length ≤ 128 := by
    cases hw : S.wr b with
    | none => simp
    | some s => have := (h.wr b s hw).2; simp; omega
  refine ext_sec (c := S.count) (by rw [lay_len (by omega)]; exact hl1) hl2 fun i hi => ?_
  rw [calm_safe h _ _ _ hi]
  by_cases e : i = b
  · subst e
    rw [sec_lay_same (by omega) hs, if_pos (by omega), calm_safe h _ _ _ hi, if_neg (by omega)]
    cases hw : S.wr i with
    | none => rw [one_none hw]; simp
    | some s =>
      have h1 := (h.wr i s hw).2
      have h2 := h.len
      have h3 := sec_len (l := S.safe) (i := i) (by omega)
      rw [one_full_some h hw hi]
      simp only [Option.getD_some]
      rw [List.drop_of_length_le (by omega), List.append_nil]
  · rw [sec_lay_other (by omega) hs (fun q => e q.symm), calm_safe h _ _ _ hi]
    by_cases q : a ≤ i ∧ i < b
    · rw [if_pos q, if_pos (by omega)]
    · rw [if_neg q, if_neg (by omega)]
theorem calm_wr {S : St} {a b : Nat} (hab : a ≤ b) : (fun j => if j = b then none else (S.calm a b).wr j) = (S.calm a (b + 1)).wr := by
  funext j
  show (if j = b then none else if a ≤ j ∧ j < b then none else S.wr j) = if a ≤ j ∧ j < b + 1 then none else S.wr j
  by_cases e : j = b
  · rw [if_pos e, if_pos (by omega)]
  · rw [if_neg e]
    by_cases q : a ≤ j ∧ j < b
    · rw [if_pos q, if_pos (by omega)]
    · rw [if_neg q, if_neg (by omega)]
theorem calm_at {S : St} {a b : Nat} : (S.calm a b).wr b = S.wr b := by
  show (if a ≤ b ∧ b < b then none else S.wr b) = _
  rw [if_neg (by omega)]
end Go.Proofs.Ytnecbbflcpngcaa
