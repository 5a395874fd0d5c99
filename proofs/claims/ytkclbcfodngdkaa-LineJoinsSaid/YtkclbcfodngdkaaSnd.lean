/- The row of bytes by the program: what the call returns; nothing that was there turns. Conditions: the bytes are within reach. -/
import Derived.Test.YtkclbcfodngdkaaPts
import Derived.WalkMore
import Derived.ScopeJumps
import Derived.Maps.AppendAt
import Derived.StillTailTactics
import Derived.IntWalk
import Derived.Deep.RegionHeld3
import Derived.Deep.AppendLies
namespace Go.Proofs.Ytkclbcfodngdkaa
open Go.RowKit
set_option linter.unusedVariables false

/-- a scope whose gotos go forward to one label, behind which none stands -/
theorem wp_scope_once {P : Program} {a : Act} {w : World} {Q : Exit → Act → World → Prop} {c rest : Code} (l : Nat) (hf : findLabel c l = some rest)
    (h : c.wp P (Exit.jump l (fun a w => rest.wp P (Exit.noGoto Q) a w) Q) a w) : (Code.scope c).wp P Q a w :=
  wp_scope_jumps l _ (fun _ _ => 0) hf h fun _ _ hJ => wp_mono hJ fun e _ _ hq => by
    cases e with
    | goto l' => exact hq.elim
    | _ => exact hq

/-- a byte's two points -/
def ptB (b : UInt8) : List Value := [pt (b.toNat / 16), pt b.toNat]
/-- the row of bytes -/
def rowP (l : List UInt8) : List Value := pt 15 :: l.flatMap ptB
theorem rowP_len (l : List UInt8) : (rowP l).length = 1 + 2 * l.length := by
  unfold rowP
  rw [List.length_cons, List.length_flatMap]
  have : (l.map fun b => (ptB b).length) = List.replicate l.length 2 := by
    apply List.ext_getElem <;> simp [ptB]
  rw [this, List.sum_replicate_nat]; omega
theorem rowP_snoc (l : List UInt8) (b : UInt8) : rowP (l ++ [b]) = rowP l ++ ptB b := by simp [rowP]

theorem Try.infoC : (Try.prog.info? 27).map (fun i => (i.zero, i.size, i.bytes)) = some (some (.complex .f64 0 0), 1, 16) := by kernel_rfl
theorem point_still (n : Nat) (hn : n < 256) (w : World) :
    Calls Try.prog 9 #[.int .u8 (n : Nat)] w fun e w' => e = .returned (pt n) ∧ w' = w := (point_any n hn w).mono fun _ _ h => ⟨h.1, h.2.symm⟩
set_option maxRecDepth 100000 in
set_option maxHeartbeats 400000 in
theorem send_long (s : ByteArray) (w : World) (hs : 2047 < s.size) (hs2 : s.size ≤ 281474976710656) :
    Calls Try.prog 5 #[.string s] w fun e w' => e = .returned (.tuple #[.slice none 0 0, .int .i64 33]) ∧ w = w' := by
  go_enter Try.func5, Try.ntmps5
  go_wp2
  refine wp_scope_once 0 rfl ?_
  go_wp2
  go_step3
  refine ⟨rfl, ?_⟩
  go_wp2
  rw [Exit.noGoto_ret]
  go_ret2
  exact ⟨rfl, rfl⟩

/-- points in a row of the call's own -/
def OwnP (w : World) (B : Nat) (v : Value) (l : List Value) : Prop := w.ownsRow B 27 1 v l.length l ∧ v ≠ .slice none 0 0
theorem OwnP.more {w' : World} {B : Nat} {v' : Value} {l news : List Value} {n : Nat} (h : w'.ownsRow B 27 1 v' (l.length + n) (l ++ news)) (hn : news.length = n) (hne : v' ≠ .slice none 0 0) : OwnP w' B v' (l ++ news) := by
  refine ⟨?_, hne⟩
  rw [List.length_append, hn]; exact h
theorem news1P (w : World) (x : Value) : ∀ j u, [x][j]? = some u → (w.alloc (.cells #[x] 27)).cell? ((⟨w.heap.size, 0, none⟩ : Addr).add j) = some u := by
  intro j u hj
  match j, hj with
  | 0, hj => simp at hj; subst hj; simp [Addr.add]
theorem news2P (w : World) (x y : Value) : ∀ j u, [x, y][j]? = some u → (w.alloc (.cells #[x, y] 27)).cell? ((⟨w.heap.size, 0, none⟩ : Addr).add j) = some u := by
  intro j u hj
  match j, hj with
  | 0, hj => simp at hj; subst hj; simp [Addr.add]
  | 1, hj => simp at hj; subst hj; simp [Addr.add]

set_option maxRecDepth 100000 in
set_option maxHeartbeats 2000000 in
theorem send_any (s : ByteArray) (w : World) (hs : s.size ≤ 2047) :
    Calls Try.prog 5 #[.string s] w fun e w' => ∃ v, e = .returned (.tuple #[v, .int .i64 0]) ∧ OwnP w' w.heap.size v (rowP s.data.toList) ∧ Below w.heap.size w w' := by
  obtain ⟨i0, hi, hz0, hz1, hz2⟩ := info_parts Try.infoC
  have HI := Lib.hid (And.intro hi (And.intro hz0 (And.intro hz1 hz2)))
  obtain ⟨D, hD⟩ : ∃ D, D = w.heap.size := ⟨_, rfl⟩
  have hDs : D ≤ w.heap.size := by omega
  rw [← hD]
  have HD := Lib.hid hD
  clear hi hz0 hz1 hz2 hD
  have P15 := Lib.hid (fun w => point_any 15 (by decide) w)
  go_enter Try.func5, Try.ntmps5
  go_wp2
  refine wp_scope_once 0 rfl ?_
  go_wp2_with fail
  refine (P15.out _).mono ?_
  rintro e w1 ⟨rfl, rfl⟩
  obtain ⟨x15, y15, h15⟩ : ∃ x y, pt 15 = .complex .f64 x y := ⟨_, _, rfl⟩
  rw [h15]
  have H15 := Lib.hid h15
  clear h15
  go_wp2_with (at_builtin; refine wpList_append_own_at _ rfl (.tmp 10) (.tmp 12) 22 rfl D 27 i0 _ 1 16 Try.underlying22 HI.out.1 HI.out.2.1 HI.out.2.2.1 HI.out.2.2.2 rfl (by decide) (.slice none 0 0) 0 [] rfl ((World.ownsRow_nil w D 27 1).alloc _) ⟨w.heap.size, 0, none⟩ 1 1 [Value.complex .f64 x15 y15] rfl rfl (news1P _ _) (by intro u hu; simp at hu; subst hu; rfl) (by decide) (by decide) (by simp; omega) ?_; intro v1 w1 ow1 gr1 nil1 at1)
  have hv1 : v1 ≠ .slice none 0 0 := fun h => by have := (nil1.1 h).2; simp at this
  have ow2 : OwnP w1 D v1 (rowP []) := by
    have h : rowP [] = [Value.complex .f64 x15 y15] := by show [pt 15] = _; rw [H15.out]
    rw [h]; exact ⟨ow1, hv1⟩
  have b1 : Below D w w1 := ((Below.refl _ _).alloc (by exact hDs) _).grown gr1 (by simp; omega) (fun k hk => by simp [Value.ownBlock] at hk)
  have hD1 : D ≤ w1.heap.size := Nat.le_trans (by simp; omega) gr1.size
  clear ow1 gr1 nil1 at1 hv1
  go_wp2_with fail
  go_loopw [2, 4, 16] (fun v _ i wr => ∃ k : Nat, k ≤ s.size ∧ i = .int .i64 k ∧ OwnP wr D v (rowP (s.data.toList.take k)) ∧ Below D w wr ∧ D ≤ wr.heap.size) (fun _ _ i _ => s.size - (intOf i).toNat)
  case atStart => exact ⟨0, by omega, rfl, ow2, b1, hD1⟩
  case round =>
    obtain ⟨k, hk, rfl, ow, hb, hbs⟩ := hrel
    clear ow2 b1 hD1
    by_cases hlt : k < s.size
    · have hsn : s.data.toList.take (k + 1) = s.data.toList.take k ++ [s[k]] := by
        rw [List.take_succ_eq_append_getElem (by simpa using hlt)]; rfl
      have hrl : (rowP (s.data.toList.take k)).length = 1 + 2 * k := by rw [rowP_len, List.length_take]; simp; omega
      have HR := Lib.hid (by rw [hsn]; exact rowP_snoc (s.data.toList.take k) s[k] : rowP (s.data.toList.take (k + 1)) = rowP (s.data.toList.take k) ++ ptB s[k])
      have HRL := Lib.hid hrl
      have HOW := Lib.hid ow
      have hb8 := s[k].toNat_lt
      have hki : (k : Int) < (s.size : Int) := by omega
      have hki0 : (0 : Int) ≤ (k : Int) := by omega
      obtain ⟨x1, y1, h1⟩ : ∃ x y, pt (s[k].toNat / 16) = .complex .f64 x y := ⟨_, _, rfl⟩
      obtain ⟨x2, y2, h2⟩ : ∃ x y, pt s[k].toNat = .complex .f64 x y := ⟨_, _, rfl⟩
      have Q1 : Hid (∀ w, Calls Try.prog 9 #[.int .u8 ((s[k].toNat : Int) / 16)] w fun e w' => e = .returned (.complex .f64 x1 y1) ∧ w' = w) := by
        unfold Hid
        intro w
        have h := point_still (s[k].toNat / 16) (by omega) w
        rw [h1, show ((s[k].toNat / 16 : Nat) : Int) = (s[k].toNat : Int) / 16 by omega] at h
        exact h
      have Q2 : Hid (∀ w, Calls Try.prog 9 #[.int .u8 (s[k].toNat : Int)] w fun e w' => e = .returned (.complex .f64 x2 y2) ∧ w' = w) := by
        unfold Hid
        intro w
        have h := point_still s[k].toNat (by omega) w
        rw [h2] at h
        exact h
      have HB : Hid (ptB s[k] = [Value.complex .f64 x1 y1, Value.complex .f64 x2 y2]) := by unfold Hid ptB; rw [h1, h2]
      clear hsn hrl ow h1 h2
      have hall : ∀ u ∈ [Value.complex .f64 x1 y1, Value.complex .f64 x2 y2], u.oneCell' = true := by intro u hu; simp at hu; rcases hu with rfl | rfl <;> rfl
      have HALL := Lib.hid hall
      have OWD := Lib.hid (show (wr.drew.alloc (.cells #[Value.complex .f64 x1 y1, Value.complex .f64 x2 y2] 27)).ownsRow D 27 1 u2 _ _ from World.ownsRow.alloc (show wr.drew.ownsRow D 27 1 u2 _ _ from HOW.out.1) _)
      have HN2 : Hid (∀ j u, [Value.complex .f64 x1 y1, Value.complex .f64 x2 y2][j]? = some u → (wr.drew.alloc (.cells #[Value.complex .f64 x1 y1, Value.complex .f64 x2 y2] 27)).cell? ((⟨wr.heap.size, 0, none⟩ : Addr).add j) = some u) := news2P wr.drew _ _
      have HBA : Hid (D ≤ (wr.drew.alloc (.cells #[Value.complex .f64 x1 y1, Value.complex .f64 x2 y2] 27)).heap.size) := Nat.le_trans hbs (by simp)
      have H63 : Hid ((rowP (s.data.toList.take k)).length + 2 ≤ maxLen) := by unfold Hid maxLen; rw [HRL.out]; omega
      have HBY : Hid (((rowP (s.data.toList.take k)).length + 2) * 16 ≤ 140737488355328) := by unfold Hid; rw [HRL.out]; omega
      clear hall
      go_wp2
      go_region_held3 (fun w' => True) (exact trivial)
        (first
          | (go_at_call 9; (with_reducible refine (Q1.out _).mono ?_); rintro e w' ⟨rfl, rfl⟩)
          | (go_at_call 9; (with_reducible refine (Q2.out _).mono ?_); rintro e w' ⟨rfl, rfl⟩)
          | (refine step_append_lies _ (by rfl) (.tmp 19) (.tmp 29) 22 (by rfl) D 27 i0 (.complex .f64 0 0) 1 16 Try.underlying22 HI.out.1 HI.out.2.1 HI.out.2.2.1 HI.out.2.2.2 rfl (by decide) _ _ _ (by rfl) OWD.out ⟨wr.heap.size, 0, none⟩ 2 2 [Value.complex .f64 x1 y1, Value.complex .f64 x2 y2] (by rfl) rfl HN2.out HALL.out (by decide) H63.out HBY.out HBA.out _ rfl ?_; intro g cap w3 hown hgrow hat hlt3))
      all_goals
        have ow3 : OwnP w3 D (.slice (some ⟨g, 0, none⟩) ((rowP (s.data.toList.take k)).length + 2) cap) (rowP (s.data.toList.take (k + 1))) := by
          rw [HR.out, HB.out]
          exact OwnP.more hown rfl (by simp)
        have b3 : Below D w w3 := Below.grown (Below.drew (Below.alloc hb hbs _)) hgrow (by show D ≤ (wr.alloc _).heap.size; simp; omega) (fun k' hk' => (HOW.out.1.lt k' hk').1)
        have hD3 : D ≤ w3.heap.size := Nat.le_trans (by show D ≤ (wr.alloc _).heap.size; simp; omega) hgrow.size
        have hms : s.size - (intOf (Value.int IntKind.i64 ((k : Int) + 1))).toNat < s.size - (intOf (Value.int IntKind.i64 (k : Int))).toNat := by simp [intOf]; omega
        clear hown hgrow hat hlt3
        first
          | exact ⟨⟨k + 1, by omega, by go_num, ow3, b3, hD3⟩, hms⟩
          | (go_wp2
             first
              | exact ⟨⟨k + 1, by omega, by go_num, ow3, b3, hD3⟩, hms⟩
              | (refine ⟨?_, hms⟩
                 repeat apply Exists.intro
                 exact ⟨⟨k + 1, by omega, by go_num, ow3, b3, hD3⟩, rfl⟩))
    · have hkk : k = s.size := by omega
      rw [hkk, List.take_of_length_le (by simp)] at ow
      clear hkk
      go_wp2
      go_step3
      go_wp2
      simp only [Exit.jump]
      go_ret2
      exact ⟨u2, rfl, ow, hb⟩
end Go.Proofs.Ytkclbcfodngdkaa
