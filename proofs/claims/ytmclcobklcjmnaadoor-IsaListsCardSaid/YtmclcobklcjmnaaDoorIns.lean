/- The instruction of a line, and its label. Conditions: the library's variables are as they were laid. -/
import Derived.Test.YtmclcobklcjmnaaDoorWrd
namespace Go.Proofs.YtmclcobklcjmnaaDoor
open Go.RowKit Go.Maps
set_option linter.unusedVariables false
set_option linter.unusedSimpArgs false

def endB (l : Bs) (c : UInt8) : Bool := Lib.hasSuffix l [c]
/-- the instruction of a line, and the label in the place of its number -/
def insP (l : Bs) : Option (In × Bs) :=
  if (cutB 64 l).2.2 = false then (parP l).map fun i => (i, [])
  else if endB (cutB 64 l).1 32 = false ∨ labB (cutB 64 l).2.1 = false then none
  else match parP ((cutB 64 l).1 ++ [48]) with
    | some i => if leadB i.op = true then some (i, (cutB 64 l).2.1) else none
    | none => none
def InsPost (T : Option (In × Bs)) (w : World) (e : Ending) (w' : World) : Prop := (∃ i lb, e = .returned (.tuple #[inV i, .string lb, .bool T.isSome]) ∧ ∀ j, T = some j → i = j.1 ∧ lb = str j.2) ∧ Below w.heap.size w w'
theorem results_ctt {P : Program} {fn : Func} {p u x : Tmp} {ty : TypeId} (h : fn.results = #[.cell p ty, .tmp u, .tmp x]) (tmps : Array Value) (w : World) (g : Nat) (t : TypeId) (cs : Array Value) (fr : Nat × Nat) (d : TypeDesc) (v v2 : Value)
    (hp : tmps.getD p undef = .pointer (some ⟨g, 0, none⟩)) (hv : tmps.getD u undef = v) (hv2 : tmps.getD x undef = v2) (hg : w.heap[g]? = some (.cells cs t fr))
    (hu : P.underlying ty = some d) (hd : (match d with | .struct _ | .array _ _ => true | _ => false) = true) (hi : (P.info? ty).map (·.size) = some cs.size) :
    (results fn tmps).run P w = .ok (.tuple #[.agg cs, v, v2]) w := by
  subst hv hv2
  have hp' : tmps[p]?.getD undef = .pointer (some ⟨g, 0, none⟩) := by simpa using hp
  simp [results, h, hp', asAddr, run_loadVar_row w g t ty cs fr d hg hu hd hi]
set_option maxRecDepth 100000 in
set_option maxHeartbeats 4000000 in
theorem ins_any (s : ByteArray) (hs : s.size ≤ 281474976710000) (w : World) (hL : LaidV w) : Calls Tryd.prog 67 #[.string s] w (InsPost (insP s.data.toList) w) := by
  have KC := Lib.hid (fun w => cut_any s 64 (by omega) w)
  have hl1 := cutB_len1 64 s.data.toList
  have hl2 := cutB_len2 64 s.data.toList
  rw [show s.data.toList.length = s.size from Array.length_toList] at hl1 hl2
  have KP : Hid (∀ l : Bs, l.length ≤ 281474976710656 → ∀ w1, Below w.heap.size w w1 → Calls Tryd.prog 19 #[.string (str l)] w1 fun e w' => e = .returned (.tuple #[inV (parV l), .int .i64 (parE l)]) ∧ Below w1.heap.size w1 w') := Lib.hid fun l hl w1 h => by
    have := par_any (str l) (by rw [str_size]; exact hl) w1 (hL.below h)
    rwa [str_list] at this
  have HA : Hid (Below w.heap.size w (w.alloc (.cells #[.int .i64 0, .int .i64 0, .int .i64 0, .int .i64 0] 30))) := Lib.hid ((Below.refl _ w).alloc (Nat.le_refl _) _)
  cases hm : (cutB 64 s.data.toList).2.2 with
  | false =>
    have hT : insP s.data.toList = (parP s.data.toList).map fun i => (i, []) := by unfold insP; rw [if_pos hm]
    rw [hT]
    rw [hm] at KC
    have KP2 := Lib.hid (KP.out s.data.toList (by rw [Array.length_toList]; show s.size ≤ _; omega))
    rw [str_toList] at KP2
    have hpost : Hid (∀ w', Below w.heap.size w w' → InsPost ((parP s.data.toList).map fun i => (i, [])) w (.returned (.tuple #[inV (parV s.data.toList), .string ByteArray.empty, .bool (parE s.data.toList == 0)])) w') := Lib.hid fun w' hb => by
      refine ⟨⟨parV s.data.toList, ByteArray.empty, ?_, ?_⟩, hb⟩
      · unfold parE
        cases parP s.data.toList <;> rfl
      · rintro j hj
        unfold parV
        cases hp : parP s.data.toList with
        | none => rw [hp] at hj; cases hj
        | some i => rw [hp] at hj; obtain rfl := Option.some.inj hj; exact ⟨rfl, rfl⟩
    generalize parV s.data.toList = i at *
    generalize parE s.data.toList = pe at *
    obtain ⟨op, a, b, imm⟩ := i
    unfold inV at *
    dsimp only at *
    generalize str (cutB 64 s.data.toList).1 = sa at *
    generalize str (cutB 64 s.data.toList).2.1 = sb at *
    clear hm hT hs hl1 hl2 KP hL
    go_enter Tryd.func67, Tryd.ntmps67
    go_wp2_with (first
      | (go_at_call 59; (with_reducible refine (KC.out _).mono ?_); rintro e w1 ⟨rfl, hb⟩; have hz1 : w.heap.size < w1.heap.size := (by have := hb.size; simp at this; omega); have hr := (hb.block w.heap.size (by simp)).trans (heap_alloc_last w _); have HB1 := Lib.hid (And.intro (HA.out.trans (hb.mono (by simp))) hr); clear hb hr)
      | (go_at_call 19; (with_reducible refine (KP2.out _ HB1.out.1).mono ?_); rintro e w2 ⟨rfl, hb⟩; have hz2 : w.heap.size < w2.heap.size := (by have := hb.size; omega); have hr := (hb.block w.heap.size hz1).trans HB1.out.2; obtain ⟨c0, c1, c2, c3, z0, z1, z2, z3⟩ := row4 hr; have HB2 := Lib.hid (And.intro (HB1.out.1.trans (hb.mono HB1.out.1.size)) hr); clear hb hr))
    have hh0 := set4 HB2.out.2 (.int .i64 op) (.int .i64 a) (.int .i64 b) (.int .i64 imm)
    have hh := (heap_alloc_old _ (.cells #[.int .i64 op, .int .i64 a, .int .i64 b, .int .i64 imm] 30) (block_lt hh0)).trans hh0
    exact bodyPost_ret_by (results_ctt Tryd.results67 _ _ w.heap.size 30 _ (0, 0) _ _ _ rfl rfl rfl hh Tryd.underlying30 rfl (by kernel_rfl)) rfl (hpost.out _ ((below4 HB2.out.1 (Nat.le_refl _) _ _ _ _).alloc (by have := block_lt hh0; omega) _))
  | true =>
    rw [hm] at KC
    obtain ⟨A, hA⟩ : ∃ A, A = (cutB 64 s.data.toList).1 := ⟨_, rfl⟩
    obtain ⟨L, hLL⟩ : ∃ L, L = (cutB 64 s.data.toList).2.1 := ⟨_, rfl⟩
    have hT : insP s.data.toList = if endB A 32 = false ∨ labB L = false then none
      else match parP (A ++ [48]) with
        | some i => if leadB i.op = true then some (i, L) else none
        | none => none := by unfold insP; rw [if_neg (by rw [hm]; simp), ← hA, ← hLL]
    rw [hT]
    rw [← hA, ← hLL] at KC
    rw [← hA] at hl1
    rw [← hLL] at hl2
    have KS : Hid (∀ w, Calls Tryd.prog 78 #[.string (str A), .string ⟨#[32]⟩] w fun e w' => e = .returned (.bool (endB A 32)) ∧ w' = w) := Lib.hid fun w => by
      have := Tryd.strings_HasSuffix (str A) ⟨#[32]⟩ w (by rw [str_size]; omega)
      rwa [str_list] at this
    have KL : Hid (∀ w, Calls Tryd.prog 65 #[.string (str L)] w fun e w' => e = .returned (.bool (labB L)) ∧ Below w.heap.size w w') := Lib.hid fun w => by
      have := lab_any (str L) w
      rwa [str_list] at this
    have KP2 := Lib.hid (KP.out (A ++ [48]) (by rw [List.length_append]; simp; omega))
    have KQ := Lib.hid lead_any
    have hsA : (str A).size ≤ 281474976710000 := by rw [str_size]; omega
    have h48 : Hid (str (A ++ [48]) = str A ++ ⟨#[48]⟩) := Lib.hid (by rw [str_add]; rfl)
    have hnone : Hid (∀ w', Below w.heap.size w w' → InsPost none w (.returned (.tuple #[.agg #[.int .i64 0, .int .i64 0, .int .i64 0, .int .i64 0], .string ByteArray.empty, .bool false])) w') := Lib.hid fun w' hb => ⟨⟨zeroI, ByteArray.empty, rfl, fun j hj => by cases hj⟩, hb⟩
    rw [h48.out] at KP2
    clear hT hm hA hLL hs hl1 hl2 KP hL
    cases he : endB A 32 with
    | false =>
      rw [he] at KS
      rw [if_pos (.inl rfl)]
      generalize str A = sa at *
      generalize str L = sb at *
      clear he KP2 KQ
      go_enter Tryd.func67, Tryd.ntmps67
      go_wp2_with (first
        | (go_at_call 59; (with_reducible refine (KC.out _).mono ?_); rintro e w1 ⟨rfl, hb⟩; have hr := (hb.block w.heap.size (by simp)).trans (heap_alloc_last w _); obtain ⟨c0, c1, c2, c3, z0, z1, z2, z3⟩ := row4 hr; have HB1 := Lib.hid (And.intro (HA.out.trans (hb.mono (by simp))) hr); clear hb hr)
        | (go_at_call 78; (with_reducible refine (KS.out _).mono ?_); rintro e w2 ⟨rfl, rfl⟩))
      have hh := set4 HB1.out.2 (.int .i64 0) (.int .i64 0) (.int .i64 0) (.int .i64 0)
      exact bodyPost_ret_by (results_ctt Tryd.results67 _ _ w.heap.size 30 _ (0, 0) _ _ _ rfl rfl rfl hh Tryd.underlying30 rfl (by kernel_rfl)) rfl (hnone.out _ (below4 HB1.out.1 (Nat.le_refl _) _ _ _ _))
    | true =>
      rw [he] at KS
      cases hlb : labB L with
      | false =>
        rw [hlb] at KL
        rw [if_pos (.inr rfl)]
        generalize str A = sa at *
        generalize str L = sb at *
        clear he hlb KP2 KQ
        go_enter Tryd.func67, Tryd.ntmps67
        go_wp2_with (first
          | (go_at_call 59; (with_reducible refine (KC.out _).mono ?_); rintro e w1 ⟨rfl, hb⟩; have hz1 : w.heap.size < w1.heap.size := (by have := hb.size; simp at this; omega); have hr := (hb.block w.heap.size (by simp)).trans (heap_alloc_last w _); have HB1 := Lib.hid (And.intro (HA.out.trans (hb.mono (by simp))) hr); clear hb hr)
          | (go_at_call 78; (with_reducible refine (KS.out _).mono ?_); rintro e w2 ⟨rfl, rfl⟩)
          | (go_at_call 65; (with_reducible refine (KL.out _).mono ?_); rintro e w3 ⟨rfl, hb⟩; have hr := (hb.block w.heap.size hz1).trans HB1.out.2; obtain ⟨c0, c1, c2, c3, z0, z1, z2, z3⟩ := row4 hr; have HB2 := Lib.hid (And.intro (HB1.out.1.trans (hb.mono HB1.out.1.size)) hr); clear hb hr))
        have hh := set4 HB2.out.2 (.int .i64 0) (.int .i64 0) (.int .i64 0) (.int .i64 0)
        exact bodyPost_ret_by (results_ctt Tryd.results67 _ _ w.heap.size 30 _ (0, 0) _ _ _ rfl rfl rfl hh Tryd.underlying30 rfl (by kernel_rfl)) rfl (hnone.out _ (below4 HB2.out.1 (Nat.le_refl _) _ _ _ _))
      | true =>
        rw [hlb] at KL
        rw [if_neg (by simp)]
        obtain ⟨T, hT⟩ : ∃ T, T = (match parP (A ++ [48]) with
          | some i => if leadB i.op = true then some (i, L) else none
          | none => none) := ⟨_, rfl⟩
        rw [← hT]
        have hpost : Hid ((parE (A ++ [48]) = 92 ∧ ∀ w', Below w.heap.size w w' → InsPost T w (.returned (.tuple #[inV (parV (A ++ [48])), .string (str L), .bool false])) w') ∨ (parE (A ++ [48]) = 0 ∧ ∀ w', Below w.heap.size w w' → InsPost T w (.returned (.tuple #[inV (parV (A ++ [48])), .string (str L), .bool (leadB (parV (A ++ [48])).op)])) w')) := Lib.hid (by
          unfold parE parV
          cases hp : parP (A ++ [48]) with
          | none =>
            rw [hp] at hT
            subst hT
            exact .inl ⟨rfl, fun w' hb => ⟨⟨zeroI, str L, rfl, fun j hj => by cases hj⟩, hb⟩⟩
          | some i =>
            rw [hp] at hT
            dsimp only at hT
            refine .inr ⟨rfl, fun w' hb => ⟨⟨i, str L, ?_, ?_⟩, hb⟩⟩
            · rw [hT]; cases leadB i.op <;> rfl
            · intro j hj
              rw [hT] at hj
              split at hj
              · obtain rfl := Option.some.inj hj; exact ⟨rfl, rfl⟩
              · cases hj)
        generalize parE (A ++ [48]) = pe at *
        generalize parV (A ++ [48]) = i at *
        obtain ⟨op, a, b, imm⟩ := i
        unfold inV at *
        dsimp only at *
        have KQ2 := Lib.hid (KQ.out op)
        generalize leadB op = lb at *
        generalize str A = sa at *
        generalize str L = sb at *
        clear he hlb hT KQ
        rcases hpost.out with ⟨rfl, hp2⟩ | ⟨rfl, hp2⟩
        · have HP := Lib.hid hp2
          clear hp2 hpost KQ2
          go_enter Tryd.func67, Tryd.ntmps67
          go_upto_region 8 with (first
            | (go_at_call 59; (with_reducible refine (KC.out _).mono ?_); rintro e w1 ⟨rfl, hb⟩; have hz1 : w.heap.size < w1.heap.size := (by have := hb.size; simp at this; omega); have hr := (hb.block w.heap.size (by simp)).trans (heap_alloc_last w _); have HB1 := Lib.hid (And.intro (HA.out.trans (hb.mono (by simp))) hr); clear hb hr)
            | (go_at_call 78; (with_reducible refine (KS.out _).mono ?_); rintro e w2 ⟨rfl, rfl⟩)
            | (go_at_call 65; (with_reducible refine (KL.out _).mono ?_); rintro e w3 ⟨rfl, hb⟩; have hz2 : w.heap.size < w3.heap.size := (by have := hb.size; omega); have hr := (hb.block w.heap.size hz1).trans HB1.out.2; have HB2 := Lib.hid (And.intro (HB1.out.1.trans (hb.mono HB1.out.1.size)) hr); clear hb hr)
            | (go_at_call 19; (with_reducible refine (KP2.out _ HB2.out.1).mono ?_); rintro e w4 ⟨rfl, hb⟩; have hr := (hb.block w.heap.size hz2).trans HB2.out.2; have HB3 := Lib.hid (And.intro (HB2.out.1.trans (hb.mono HB2.out.1.size)) hr); clear hb hr))
          obtain ⟨X, hX⟩ : ∃ X, X = w4.heap.size := ⟨_, rfl⟩
          obtain ⟨W, hW⟩ : ∃ W, W = w4.alloc (.cells #[.int .i64 op, .int .i64 a, .int .i64 b, .int .i64 imm] 30) := ⟨_, rfl⟩
          have k1 : W.heap[X]? = some (.cells #[.int .i64 op, .int .i64 a, .int .i64 b, .int .i64 imm] 30) := by rw [hX, hW]; exact heap_alloc_last w4 _
          have k2 : W.heap[w.heap.size]? = some (.cells #[.int .i64 0, .int .i64 0, .int .i64 0, .int .i64 0] 30) := by rw [hW]; exact (heap_alloc_old _ _ (block_lt HB3.out.2)).trans HB3.out.2
          have HW : Hid (Below w.heap.size w W ∧ W.heap[w.heap.size]? = some (.cells #[.int .i64 0, .int .i64 0, .int .i64 0, .int .i64 0] 30)) := Lib.hid ⟨by rw [hW]; exact HB3.out.1.alloc HB3.out.1.size _, k2⟩
          rw [← hW, ← hX]
          obtain ⟨d0, d1, d2, d3, -, -, -, -⟩ := row4 k1
          obtain ⟨c0, c1, c2, c3, z0, z1, z2, z3⟩ := row4 (w := W.drew) k2
          obtain ⟨c0', c1', c2', c3', z0', z1', z2', z3'⟩ := row4 (w := W) k2
          clear hX hW k1 k2 hz1 hz2
          go_region
          all_goals go_wp2
          all_goals
           have hh := set4 (w := W.drew) HW.out.2 (.int .i64 op) (.int .i64 a) (.int .i64 b) (.int .i64 imm)
           exact bodyPost_ret_by (results_ctt Tryd.results67 _ _ w.heap.size 30 _ (0, 0) _ _ _ rfl rfl rfl hh Tryd.underlying30 rfl (by kernel_rfl)) rfl (HP.out _ (below4 HW.out.1.drew (Nat.le_refl _) _ _ _ _))
        · have HP := Lib.hid hp2
          clear hp2 hpost
          go_enter Tryd.func67, Tryd.ntmps67
          go_upto_region 8 with (first
            | (go_at_call 59; (with_reducible refine (KC.out _).mono ?_); rintro e w1 ⟨rfl, hb⟩; have hz1 : w.heap.size < w1.heap.size := (by have := hb.size; simp at this; omega); have hr := (hb.block w.heap.size (by simp)).trans (heap_alloc_last w _); have HB1 := Lib.hid (And.intro (HA.out.trans (hb.mono (by simp))) hr); clear hb hr)
            | (go_at_call 78; (with_reducible refine (KS.out _).mono ?_); rintro e w2 ⟨rfl, rfl⟩)
            | (go_at_call 65; (with_reducible refine (KL.out _).mono ?_); rintro e w3 ⟨rfl, hb⟩; have hz2 : w.heap.size < w3.heap.size := (by have := hb.size; omega); have hr := (hb.block w.heap.size hz1).trans HB1.out.2; have HB2 := Lib.hid (And.intro (HB1.out.1.trans (hb.mono HB1.out.1.size)) hr); clear hb hr)
            | (go_at_call 19; (with_reducible refine (KP2.out _ HB2.out.1).mono ?_); rintro e w4 ⟨rfl, hb⟩; have hr := (hb.block w.heap.size hz2).trans HB2.out.2; have HB3 := Lib.hid (And.intro (HB2.out.1.trans (hb.mono HB2.out.1.size)) hr); clear hb hr))
          obtain ⟨X, hX⟩ : ∃ X, X = w4.heap.size := ⟨_, rfl⟩
          obtain ⟨W, hW⟩ : ∃ W, W = w4.alloc (.cells #[.int .i64 op, .int .i64 a, .int .i64 b, .int .i64 imm] 30) := ⟨_, rfl⟩
          have k1 : W.heap[X]? = some (.cells #[.int .i64 op, .int .i64 a, .int .i64 b, .int .i64 imm] 30) := by rw [hX, hW]; exact heap_alloc_last w4 _
          have k2 : W.heap[w.heap.size]? = some (.cells #[.int .i64 0, .int .i64 0, .int .i64 0, .int .i64 0] 30) := by rw [hW]; exact (heap_alloc_old _ _ (block_lt HB3.out.2)).trans HB3.out.2
          have HW : Hid (Below w.heap.size w W ∧ W.heap[w.heap.size]? = some (.cells #[.int .i64 0, .int .i64 0, .int .i64 0, .int .i64 0] 30)) := Lib.hid ⟨by rw [hW]; exact HB3.out.1.alloc HB3.out.1.size _, k2⟩
          rw [← hW, ← hX]
          obtain ⟨d0, d1, d2, d3, -, -, -, -⟩ := row4 k1
          obtain ⟨c0, c1, c2, c3, z0, z1, z2, z3⟩ := row4 (w := W.drew) k2
          obtain ⟨c0', c1', c2', c3', z0', z1', z2', z3'⟩ := row4 (w := W) k2
          clear hX hW k1 k2 hz1 hz2
          go_region_with (go_at_call 79; (with_reducible refine (KQ2.out _).mono ?_); rintro e w6 ⟨rfl, rfl⟩)
          all_goals go_wp2
          all_goals
           have hh := set4 (w := W.drew) HW.out.2 (.int .i64 op) (.int .i64 a) (.int .i64 b) (.int .i64 imm)
           exact bodyPost_ret_by (results_ctt Tryd.results67 _ _ w.heap.size 30 _ (0, 0) _ _ _ rfl rfl rfl hh Tryd.underlying30 rfl (by kernel_rfl)) rfl (HP.out _ (below4 HW.out.1.drew (Nat.le_refl _) _ _ _ _))
end Go.Proofs.YtmclcobklcjmnaaDoor
