/- The bytes of a set as they are told: what the call returns; nothing that was there turns. Conditions: the set's numbers are those of a machine. -/
import Derived.Test.YthejkelnjimogaaDoorSgn
import Derived.Test.YthejkelnjimogaaDoorSts
import Derived.Deep.RegionHeld3
import Derived.IntWalk
namespace Go.Proofs.YthejkelnjimogaaDoor
open Go.RowKit
set_option linter.unusedVariables false

def topS (s : S4) : Nat → Nat → Nat
  | 0, h => h
  | f + 1, h => if h + 1 < 256 ∧ s.has (h + 1) = true then topS s f (h + 1) else h
/-- the last byte of a row -/
def topF (s : S4) (h : Nat) : Nat := topS s (255 - h) h
theorem topF_step {s : S4} {h : Nat} (h1 : h + 1 < 256) (h2 : s.has (h + 1) = true) : topF s h = topF s (h + 1) := by
  unfold topF
  rw [show 255 - h = (255 - (h + 1)) + 1 by omega]
  conv => lhs; rw [topS]
  rw [if_pos ⟨h1, h2⟩]
theorem topF_stop {s : S4} {h : Nat} (h1 : ¬ (h + 1 < 256 ∧ s.has (h + 1) = true)) : topF s h = h := by
  unfold topF
  cases hf : 255 - h with
  | zero => rfl
  | succ f => rw [topS, if_neg h1]
theorem topS_ge (s : S4) : ∀ (f h : Nat), h ≤ 255 → h ≤ topS s f h ∧ topS s f h ≤ 255
  | 0, h, hh => ⟨Nat.le_refl _, hh⟩
  | f + 1, h, hh => by
    rw [topS]
    split
    · have := topS_ge s f (h + 1) (by omega); omega
    · exact ⟨Nat.le_refl _, hh⟩
theorem topF_ge (s : S4) {h : Nat} (hh : h ≤ 255) : h ≤ topF s h ∧ topF s h ≤ 255 := topS_ge s _ h hh
/-- the rows from low on, behind those of r, and how many bytes -/
def rowsT (s : S4) : Nat → Nat → Bs → Nat → Bs × Nat
  | 0, _, r, c => (r, c)
  | f + 1, low, r, c => if low < 256 then if s.has low = true then rowsT s f (topF s low + 1) (r ++ rowS low (topF s low)) (c + (topF s low - low + 1)) else rowsT s f (low + 1) r c else (r, c)
theorem rowsT_fuel (s : S4) : ∀ (f g low : Nat) (r : Bs) (c : Nat), 256 - low ≤ f → 256 - low ≤ g → rowsT s f low r c = rowsT s g low r c
  | 0, 0, _, _, _, _, _ => rfl
  | 0, g + 1, low, r, c, h1, _ => by rw [rowsT, rowsT, if_neg (by omega)]
  | f + 1, 0, low, r, c, _, h2 => by rw [show rowsT s 0 low r c = (r, c) from rfl, rowsT, if_neg (by omega)]
  | f + 1, g + 1, low, r, c, h1, h2 => by
    rw [rowsT, rowsT]
    by_cases hl : low < 256
    · rw [if_pos hl, if_pos hl]
      have := topF_ge s (h := low) (by omega)
      rw [rowsT_fuel s f g (topF s low + 1) _ _ (by omega) (by omega), rowsT_fuel s f g (low + 1) _ _ (by omega) (by omega)]
    · rw [if_neg hl, if_neg hl]
def rowsF (s : S4) (low : Nat) (r : Bs) (c : Nat) : Bs × Nat := rowsT s 256 low r c
theorem rowsF_end {s : S4} {low : Nat} {r : Bs} {c : Nat} (h : ¬ low < 256) : rowsF s low r c = (r, c) := by unfold rowsF; rw [rowsT, if_neg h]
theorem rowsF_skip {s : S4} {low : Nat} {r : Bs} {c : Nat} (h : low < 256) (hh : s.has low = false) : rowsF s low r c = rowsF s (low + 1) r c := by
  unfold rowsF
  rw [rowsT, if_pos h, if_neg (by rw [hh]; simp)]
  exact rowsT_fuel s _ _ _ _ _ (by omega) (by omega)
theorem rowsF_row {s : S4} {low : Nat} {r : Bs} {c : Nat} (h : low < 256) (hh : s.has low = true) : rowsF s low r c = rowsF s (topF s low + 1) (r ++ rowS low (topF s low)) (c + (topF s low - low + 1)) := by
  have := topF_ge s (h := low) (by omega)
  unfold rowsF
  conv => lhs; rw [rowsT]
  rw [if_pos h, if_pos hh]
  exact rowsT_fuel s _ _ _ _ _ (by omega) (by omega)
/-- a set as it is told -/
def setS (s : S4) : Bs := if s = S4.full then [46] else if (rowsF s 0 [] 0).2 = 1 then (rowsF s 0 [] 0).1 else [91] ++ (rowsF s 0 [] 0).1 ++ [93]
theorem rowS_len (lo hi : Nat) : 1 ≤ (rowS lo hi).length ∧ (rowS lo hi).length ≤ 9 := by
  have a := bytS_len lo
  have b := bytS_len hi
  unfold rowS
  split
  · omega
  · split <;> simp <;> omega
theorem rowsT_len (s : S4) : ∀ (f low : Nat) (r : Bs) (c : Nat), (rowsT s f low r c).1.length ≤ r.length + 9 * f
  | 0, _, _, _ => Nat.le_refl _
  | f + 1, low, r, c => by
    rw [rowsT]
    split
    · split
      · have := rowsT_len s f (topF s low + 1) (r ++ rowS low (topF s low)) (c + (topF s low - low + 1))
        have := rowS_len low (topF s low)
        simp at *
        omega
      · have := rowsT_len s f (low + 1) r c
        omega
    · show r.length ≤ _; omega
theorem setS_len (s : S4) : (setS s).length ≤ 3000 := by
  have := rowsT_len s 256 0 [] 0
  unfold setS rowsF
  split
  · simp
  · split
    · simp at this; omega
    · simp at this ⊢; omega
theorem same4_eq (s t : S4) : same4 (s.a : Nat) (s.b : Nat) (s.c : Nat) (s.d : Nat) (t.a : Nat) (t.b : Nat) (t.c : Nat) (t.d : Nat) = decide (s = t) := by
  obtain ⟨a, b, c, d⟩ := s
  obtain ⟨a', b', c', d'⟩ := t
  unfold same4
  rw [Bool.eq_iff_iff]
  simp [and_assoc]
  omega
attribute [local go_sem ↓] eql59_pre
attribute [local go_sem] eql59_run
theorem cells4 {w : World} {X : Nat} {a b c d : Int} {t : TypeId} (h : w.heap[X]? = some (.cells #[.int .u64 a, .int .u64 b, .int .u64 c, .int .u64 d] t (0, 0))) :
    w.cell? ⟨X, 0, none⟩ = some (.int .u64 a) ∧ w.cell? ⟨X, 1, none⟩ = some (.int .u64 b) ∧ w.cell? ⟨X, 2, none⟩ = some (.int .u64 c) ∧ w.cell? ⟨X, 3, none⟩ = some (.int .u64 d) :=
  ⟨cell_at h rfl, cell_at h rfl, cell_at h rfl, cell_at h rfl⟩
set_option maxRecDepth 20000 in
set_option maxHeartbeats 8000000 in
theorem setPat_any (s : S4) (w : World) (hs : s.ok) : Calls Tryd.prog 30 #[s.val] w fun e w' => e = .returned (.string (str (setS s))) ∧ Below w.heap.size w w' := by
  obtain ⟨X, hX⟩ : ∃ X, X = w.heap.size := ⟨_, rfl⟩
  have hzz : w.heap.size = X := hX.symm
  have FULL : Hid (∀ w, Calls Tryd.prog 43 #[] w fun e w' => e = .returned (.agg #[.int .u64 (S4.full.a : Nat), .int .u64 (S4.full.b : Nat), .int .u64 (S4.full.c : Nat), .int .u64 (S4.full.d : Nat)]) ∧ Below w.heap.size w w') := fun w => allBytes_any w
  have h4 := same4_eq s S4.full
  have r0 : (w.alloc (.cells s.cells 59)).heap[X]? = some (.cells s.cells 59 (0, 0)) := by rw [hX]; exact heap_alloc_new w _
  have b0 : Below X w (w.alloc (.cells s.cells 59)) := by rw [hX]; exact below_new w _
  have x0 : X < (w.alloc (.cells s.cells 59)).heap.size := by rw [hX]; simp
  have HAS : Hid (∀ b, b ≤ 255 → ∀ w, Calls Tryd.prog 44 #[.agg #[.int .u64 (s.a : Nat), .int .u64 (s.b : Nat), .int .u64 (s.c : Nat), .int .u64 (s.d : Nat)], .int .i64 (b : Nat)] w fun e w' => e = .returned (.bool (s.has b)) ∧ Below w.heap.size w w') := fun b hb w => has_any s b w hs hb
  rw [show s.val = .agg s.cells from rfl] at *
  unfold S4.cells at *
  rw [hzz]
  clear hX
  have STEP : Hid (∀ wa wb : World, (X < wa.heap.size ∧ wa.heap[X]? = some (.cells #[.int .u64 (s.a : Nat), .int .u64 (s.b : Nat), .int .u64 (s.c : Nat), .int .u64 (s.d : Nat)] 59 (0, 0)) ∧ Below X w wa) → Below wa.heap.size wa wb → (X < wb.heap.size ∧ wb.heap[X]? = some (.cells #[.int .u64 (s.a : Nat), .int .u64 (s.b : Nat), .int .u64 (s.c : Nat), .int .u64 (s.d : Nat)] 59 (0, 0)) ∧ Below X w wb)) := fun wa wb ⟨x, r, b⟩ g =>
    ⟨Nat.lt_of_lt_of_le x g.size, by rw [g.block X x]; exact r, b.trans (g.mono (Nat.le_of_lt x))⟩
  obtain ⟨I, hI⟩ : ∃ I : World → Prop, I = fun wa => X < wa.heap.size ∧ wa.heap[X]? = some (.cells #[.int .u64 (s.a : Nat), .int .u64 (s.b : Nat), .int .u64 (s.c : Nat), .int .u64 (s.d : Nat)] 59 (0, 0)) ∧ Below X w wa := ⟨_, rfl⟩
  have I0 : I (w.alloc (.cells #[.int .u64 (s.a : Nat), .int .u64 (s.b : Nat), .int .u64 (s.c : Nat), .int .u64 (s.d : Nat)] 59)) := by rw [hI]; exact ⟨x0, r0, b0⟩
  have IS : Hid (∀ wa wb, I wa → Below wa.heap.size wa wb → I wb) := by rw [hI]; exact fun wa wb h g => STEP.out wa wb h g
  have ID : Hid (∀ wa n, I wa → I (wa.drewN n)) := by rw [hI]; exact fun wa n h => ⟨h.1, h.2.1, below_drewN h.2.2 n⟩
  have ID1 : Hid (∀ wa, I wa → I wa.drew) := by rw [hI]; exact fun wa h => ⟨h.1, h.2.1, h.2.2.drew⟩
  have IC : Hid (∀ wa, I wa → (wa.cell? ⟨X, 0, none⟩ = some (.int .u64 (s.a : Nat)) ∧ wa.cell? ⟨X, 1, none⟩ = some (.int .u64 (s.b : Nat)) ∧ wa.cell? ⟨X, 2, none⟩ = some (.int .u64 (s.c : Nat)) ∧ wa.cell? ⟨X, 3, none⟩ = some (.int .u64 (s.d : Nat))) ∧ Below X w wa) := by rw [hI]; exact fun wa h => ⟨cells4 h.2.1, h.2.2⟩
  obtain ⟨⟨c0, c1, c2, c3⟩, _⟩ := IC.out _ I0
  clear hI STEP r0 b0 x0 hs
  unfold setS
  by_cases hf : s = S4.full
  · rw [if_pos hf]
    have h5 : same4 (s.a : Nat) (s.b : Nat) (s.c : Nat) (s.d : Nat) (S4.full.a : Nat) (S4.full.b : Nat) (S4.full.c : Nat) (S4.full.d : Nat) = true := by rw [h4]; simpa using hf
    have f1 : Hid (str [46] = ⟨#[46]⟩) := rfl
    rw [f1.out]
    clear h4 hf
    generalize S4.full = t at *
    go_enter Tryd.func30, Tryd.ntmps30
    go_wp2_with fail
    go_region_held3 (fun w' => (w'.cell? ⟨X, 0, none⟩ = some (.int .u64 (s.a : Nat)) ∧ w'.cell? ⟨X, 1, none⟩ = some (.int .u64 (s.b : Nat)) ∧ w'.cell? ⟨X, 2, none⟩ = some (.int .u64 (s.c : Nat)) ∧ w'.cell? ⟨X, 3, none⟩ = some (.int .u64 (s.d : Nat))) ∧ I w')
      (first | exact ⟨⟨c0, c1, c2, c3⟩, ID1.out _ I0⟩ | exact ⟨(IC.out _ i4).1, i4⟩)
      (first | (go_at_call 43; (with_reducible refine (FULL.out _).mono ?_); rintro e v4 ⟨rfl, g4⟩; have i4 := IS.out _ _ (ID1.out _ I0) g4))
    go_wp2_with fail
    go_ret
    exact ⟨rfl, (IC.out _ i4).2⟩
  · rw [if_neg hf]
    have h5 : same4 (s.a : Nat) (s.b : Nat) (s.c : Nat) (s.d : Nat) (S4.full.a : Nat) (S4.full.b : Nat) (S4.full.c : Nat) (S4.full.d : Nat) = false := by rw [h4]; simpa using hf
    clear h4 hf
    generalize S4.full = t at *
    obtain ⟨T, hT⟩ : ∃ T, rowsF s 0 [] 0 = T := ⟨_, rfl⟩
    rw [hT]
    have HT := Lib.hid hT
    obtain ⟨E, hE⟩ : ∃ E, (if T.2 = 1 then T.1 else [91] ++ T.1 ++ [93]) = E := ⟨_, rfl⟩
    rw [hE]
    have HE := Lib.hid hE
    clear hT hE
    go_enter Tryd.func30, Tryd.ntmps30
    go_wp2_with fail
    go_region_held3 (fun w' => (w'.cell? ⟨X, 0, none⟩ = some (.int .u64 (s.a : Nat)) ∧ w'.cell? ⟨X, 1, none⟩ = some (.int .u64 (s.b : Nat)) ∧ w'.cell? ⟨X, 2, none⟩ = some (.int .u64 (s.c : Nat)) ∧ w'.cell? ⟨X, 3, none⟩ = some (.int .u64 (s.d : Nat))) ∧ I w')
      (first | exact ⟨⟨c0, c1, c2, c3⟩, ID1.out _ I0⟩ | exact ⟨(IC.out _ i4).1, i4⟩)
      (first | (go_at_call 43; (with_reducible refine (FULL.out _).mono ?_); rintro e v4 ⟨rfl, g4⟩; have i4 := IS.out _ _ (ID1.out _ I0) g4))
    clear c0 c1 c2 c3 I0 g4
    go_wp2_with fail
    go_loopw [3, 4, 5] (fun r c i wr => ∃ (low cn : Nat) (rl : Bs), low ≤ 256 ∧ cn ≤ low ∧ rl.length ≤ 9 * low ∧ r = .string (str rl) ∧ c = .int .i64 cn ∧ i = .int .i64 low ∧ I wr ∧ Hid (rowsF s low rl cn = T)) (fun _ _ i _ => 256 - (intOf i).toNat)
    case atStart => exact ⟨0, 0, [], by omega, by omega, by simp, rfl, rfl, rfl, i4, HT.out⟩
    case round =>
      obtain ⟨low, cn, rl, hlow, hcn, hrl, rfl, rfl, rfl, ir, hs⟩ := hrel
      obtain ⟨⟨c0, c1, c2, c3⟩, hbw⟩ := IC.out _ ir
      by_cases hlt : low < 256
      · have g1 : (low : Int) < 256 := by omega
        have H1 := Lib.hid (HAS.out low (by omega))
        cases hh : s.has low with
        | false =>
          rw [hh] at H1
          rw [Hid, rowsF_skip hlt hh] at hs
          have HS : Hid (rowsF s (low + 1) rl cn = T) := hs
          have HRL := Lib.hid hrl
          clear hs hh hrl hlt
          go_wp2_with (go_at_call 44; (with_reducible refine (H1.out _).mono ?_); rintro e w1 ⟨rfl, k1⟩)
          exact ⟨⟨low + 1, cn, rl, by omega, by omega, by have := HRL.out; omega, rfl, rfl, by go_num, IS.out _ _ ir k1, HS⟩, by simp [intOf]; omega⟩
        | true =>
          rw [hh] at H1
          rw [Hid, rowsF_row hlt hh] at hs
          obtain ⟨H, hH⟩ : ∃ H, topF s low = H := ⟨_, rfl⟩
          have hge := topF_ge s (h := low) (by omega)
          rw [hH] at hs hge
          have HS : Hid (rowsF s (H + 1) (rl ++ rowS low H) (cn + (H - low + 1)) = T) := hs
          have HH := Lib.hid hH
          have HRL := Lib.hid hrl
          have HL := Lib.hid hlt
          have hl255 : low ≤ 255 := by omega
          clear hs hh hrl hlt hH
          go_wp2_with (go_at_call 44; (with_reducible refine (H1.out _).mono ?_); rintro e w1 ⟨rfl, k1⟩; have i1 := IS.out _ _ ir k1)
          clear c0 c1 c2 c3 k1 hbw
          go_loopw [6] (fun hv wr2 => ∃ h : Nat, low ≤ h ∧ h ≤ H ∧ hv = .int .i64 h ∧ I wr2 ∧ Hid (topF s h = H)) (fun hv _ => 256 - (intOf hv).toNat)
          case atStart => exact ⟨low, by omega, by omega, rfl, i1, HH.out⟩
          case round =>
            obtain ⟨h, hlh, hhH, rfl, ih, ht⟩ := hrel
            obtain ⟨⟨c0, c1, c2, c3⟩, hbw⟩ := IC.out _ ih
            by_cases hq : h + 1 < 256
            · have g2 : (h : Int) + 1 < 256 := by omega
              have e1 : ((h + 1 : Nat) : Int) = (h : Int) + 1 := by omega
              have HB := HAS.out (h + 1) (by omega)
              rw [e1] at HB
              cases hb : s.has (h + 1) with
              | true =>
                rw [hb] at HB
                have HB2 := Lib.hid HB
                have ht2 : Hid (topF s (h + 1) = H) := by rw [Hid, ← topF_step hq hb]; exact ht.out
                have hge2 := (topF_ge s (h := h + 1) (by omega)).1
                rw [ht2.out] at hge2
                clear HB hb ht hq e1
                go_wp2_with (go_at_call 44; (with_reducible refine (HB2.out _).mono ?_); rintro e w2 ⟨rfl, k2⟩)
                exact ⟨⟨h + 1, by omega, by omega, by go_num, IS.out _ _ ih k2, ht2⟩, by simp [intOf]; omega⟩
              | false =>
                rw [hb] at HB
                have HB2 := Lib.hid HB
                have hend : h = H := by rw [← ht.out, topF_stop (by rw [hb]; simp)]
                subst hend
                have hi255 : h ≤ 255 := hge.2
                have RW := Lib.hid (fun w => row_any low h w hlh hi255)
                have s1 := str_size rl
                have s2 := str_size (rowS low h)
                have s3 := (rowS_len low h).2
                have s4 : Hid (str (rl ++ rowS low h) = str rl ++ str (rowS low h)) := str_add _ _
                have z1 : ¬ 9223372036854775807 < (str rl).size + (str (rowS low h)).size := by have := HRL.out; omega
                have s5 : Hid ((rl ++ rowS low h).length ≤ 9 * (h + 1)) := by have := HRL.out; rw [Hid, List.length_append]; omega
                clear HB hb ht hq e1 s1 s2 s3 hge hhH
                generalize rowS low h = rw0 at *
                have HS4 : Hid (Value.string (str rl ++ str rw0) = Value.string (str (rl ++ rw0))) := by rw [s4.out]; rfl
                clear s4
                have i64a : IntKind.i64.wrap ((h : Int) - (low : Int)) = (h : Int) - (low : Int) := IntWalk.i64_in _ (by omega)
                have i64b : IntKind.i64.wrap ((h : Int) - (low : Int) + 1) = (h : Int) - (low : Int) + 1 := IntWalk.i64_in _ (by omega)
                have i64c : IntKind.i64.wrap ((cn : Int) + ((h : Int) - (low : Int) + 1)) = (cn : Int) + ((h : Int) - (low : Int) + 1) := IntWalk.i64_in _ (by omega)
                go_wp2_with (first
                  | (go_at_call 44; (with_reducible refine (HB2.out _).mono ?_); rintro e w2 ⟨rfl, k2⟩; have i2 := IS.out _ _ ih k2)
                  | (go_at_call 45; (with_reducible refine (RW.out _).mono ?_); rintro e w3 ⟨rfl, k3⟩; have i3 := IS.out _ _ i2 k3))
                exact ⟨⟨h + 1, cn + (h - low + 1), rl ++ rw0, by omega, by omega, s5.out, HS4.out, congrArg (Value.int .i64) (by omega), by go_num, i3, HS⟩, by simp [intOf]; omega⟩
            · have g2 : ¬ (h : Int) + 1 < 256 := by omega
              have hend : h = H := by rw [← ht.out, topF_stop (by omega)]
              subst hend
              have hi255 : h ≤ 255 := hge.2
              have RW := Lib.hid (fun w => row_any low h w hlh hi255)
              have s1 := str_size rl
              have s2 := str_size (rowS low h)
              have s3 := (rowS_len low h).2
              have s4 : Hid (str (rl ++ rowS low h) = str rl ++ str (rowS low h)) := str_add _ _
              have z1 : ¬ 9223372036854775807 < (str rl).size + (str (rowS low h)).size := by have := HRL.out; omega
              have s5 : Hid ((rl ++ rowS low h).length ≤ 9 * (h + 1)) := by have := HRL.out; rw [Hid, List.length_append]; omega
              clear ht hq s1 s2 s3 hge hhH
              generalize rowS low h = rw0 at *
              have HS4 : Hid (Value.string (str rl ++ str rw0) = Value.string (str (rl ++ rw0))) := by rw [s4.out]; rfl
              clear s4
              have i64a : IntKind.i64.wrap ((h : Int) - (low : Int)) = (h : Int) - (low : Int) := IntWalk.i64_in _ (by omega)
              have i64b : IntKind.i64.wrap ((h : Int) - (low : Int) + 1) = (h : Int) - (low : Int) + 1 := IntWalk.i64_in _ (by omega)
              have i64c : IntKind.i64.wrap ((cn : Int) + ((h : Int) - (low : Int) + 1)) = (cn : Int) + ((h : Int) - (low : Int) + 1) := IntWalk.i64_in _ (by omega)
              go_wp2_with (go_at_call 45; (with_reducible refine (RW.out _).mono ?_); rintro e w3 ⟨rfl, k3⟩; have i3 := IS.out _ _ ih k3)
              exact ⟨⟨h + 1, cn + (h - low + 1), rl ++ rw0, by omega, by omega, s5.out, HS4.out, congrArg (Value.int .i64) (by omega), by go_num, i3, HS⟩, by simp [intOf]; omega⟩
      · have g1 : ¬ (low : Int) < 256 := by omega
        rw [Hid, rowsF_end hlt] at hs
        subst hs
        have s1 := str_size rl
        have z1 : ¬ 9223372036854775807 < 1 + (str rl).size := by omega
        have z2 : ¬ 9223372036854775807 < 1 + (str rl).size + 1 := by omega
        have s4 : Hid (str ([91] ++ rl ++ [93]) = ⟨#[91]⟩ ++ str rl ++ ⟨#[93]⟩) := by rw [str_add, str_add]; rfl
        clear s1 hrl
        by_cases h1 : cn = 1
        · subst h1
          have hE2 : rl = E := HE.out
          have s5 : Hid (str E = str rl) := by rw [hE2]; exact rfl
          clear HE hE2 s4
          generalize str rl = y at *
          go_wp2_with fail
          go_ret
          exact ⟨by rw [s5.out]; rfl, hbw⟩
        · have e1 : ((cn : Int) == 1) = false := by simp; omega
          have hE2 : [91] ++ rl ++ [93] = E := by have := HE.out; rw [if_neg h1] at this; exact this
          have s5 : Hid (str E = ⟨#[91]⟩ ++ str rl ++ ⟨#[93]⟩) := by rw [← hE2]; exact s4.out
          clear HE hE2 s4
          generalize str rl = y at *
          clear h1
          go_wp2_with fail
          go_ret
          exact ⟨by rw [s5.out]; rfl, hbw⟩
end Go.Proofs.YthejkelnjimogaaDoor
