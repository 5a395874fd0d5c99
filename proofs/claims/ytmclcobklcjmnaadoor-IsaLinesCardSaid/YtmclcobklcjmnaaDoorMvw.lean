/- A program behind instructions that do nothing: the walk of the law. Conditions: texts that a machine holds. -/
import Derived.Test.YtmclcobklcjmnaaDoorJow
namespace Go.Proofs.YtmclcobklcjmnaaDoor
open Go.RowKit Go.Maps
set_option linter.unusedVariables false
set_option linter.unusedSimpArgs false

theorem nopsB_succ (k : Nat) : nopsB (k + 1) = nopsB k ++ [110, 111, 112, 10] := by
  unfold nopsB
  rw [List.replicate_succ', List.flatten_append]
  simp [nopL]
theorem nopsB_len (k : Nat) : (nopsB k).length = 4 * k := by
  induction k with
  | zero => rfl
  | succ k ih => rw [nopsB_succ, List.length_append, ih]; simp; omega
theorem conv_own {n0 : Nat} {v : Value} {l : Bs} {w : World} (h : w.ownsRow n0 5 1 v l.length (Lib.byteCells l)) : (convert 37 9 v).run Tryd.prog w = .ok (.string (str l)) w := by
  rcases h.2 with ⟨rfl, h0⟩ | ⟨g, cap', cur, rfl, hb, hg, _⟩
  · have : l = [] := List.eq_nil_of_length_eq_zero h0
    rw [this]
    exact run_convert_bytes_nil _ 37 5 Tryd.underlying37 Tryd.underlying5 _ _ 9 Tryd.underlying9
  · exact run_convert_bytes_back (P := Tryd.prog) w 37 9 5 ⟨g, 0, none⟩ cap' l Tryd.underlying37 Tryd.underlying5 Tryd.underlying9 (fun j hj => by
      exact h.cells (g := g) rfl j (.int .u8 ((l[j]).toNat : Int)) (by simp [Lib.byteCells, hj]))
/-- bytes put behind bytes -/
theorem app_own {n0 : Nat} {v : Value} {l : Bs} {w : World} (h : w.ownsRow n0 5 1 v l.length (Lib.byteCells l)) (b : ByteArray) (hlen : l.length + b.size ≤ 1000000) (hn : n0 ≤ w.heap.size) :
    ∃ v' w', (Builtin.append_ #[37, 9] 37 #[v, .string b]).run Tryd.prog w = .ok v' w' ∧ w'.ownsRow n0 5 1 v' (l ++ b.data.toList).length (Lib.byteCells (l ++ b.data.toList)) ∧ w.grownBy w' v.ownBlock := by
  obtain ⟨i0, hi, hz0, hz1, hz2⟩ := info_parts infoB5
  obtain ⟨v', w', hr, hown, hg, -⟩ := Lib.run_append_own_string (P := Tryd.prog) (w := w) n0 37 9 37 5 i0 Tryd.underlying37 Tryd.underlying9 hi hz0 hz1 hz2 v l.length _ h b (by unfold maxLen; omega) (by omega) hn
  refine ⟨v', w', hr, ?_, hg⟩
  rw [List.length_append, Lib.byteCells_append, Array.length_toList]
  exact hown
theorem own_below {n0 : Nat} {v : Value} {n : Nat} {xs : List Value} {a w w' : World} (hb : Below n0 a w) (hn : n0 ≤ w.heap.size) (h : w.ownsRow n0 5 1 v n xs) (hg : w.grownBy w' v.ownBlock) : Below n0 a w' :=
  hb.grown hg hn (fun k e => (h.lt k e).1)
set_option maxRecDepth 20000 in
set_option maxHeartbeats 4000000 in
theorem lines_any (k : Nat) (hk : k ≤ 900) (w : World) : Calls Tryd.prog 21 #[.int .i64 (k : Int)] w fun e w' => e = .returned (.string (str (nopsB k))) ∧ Below w.heap.size w w' := by
  obtain ⟨B0, hB0⟩ : ∃ B0, B0 = w.heap.size := ⟨_, rfl⟩
  obtain ⟨wa, hwa⟩ : ∃ wa, wa = w.alloc (.cells #[] 5) := ⟨_, rfl⟩
  have hown0 : wa.ownsRow B0 5 1 (.slice (some ⟨B0, 0, none⟩) 0 0) (nopsB 0).length (Lib.byteCells (nopsB 0)) := by
    refine ⟨rfl, .inr ⟨B0, 0, #[], rfl, Nat.le_refl _, by rw [hwa, hB0]; exact World.alloc_heap_new w _, Nat.le_refl _, Nat.zero_le _, rfl, rfl⟩⟩
  have hbel0 : Below B0 w wa := by rw [hwa, hB0]; exact (Below.refl _ w).alloc (Nat.le_refl _) _
  have HS := Lib.hid (And.intro hown0 (And.intro hbel0 (And.intro hwa hB0)))
  clear hown0 hbel0
  go_enter Tryd.func21, Tryd.ntmps21
  go_wp2
  rw [← hwa, ← hB0]
  clear hwa hB0
  go_loopw [3, 4] (fun v i wr => ∃ j : Nat, i = .int .i64 (j : Int) ∧ j ≤ k ∧ wr.ownsRow B0 5 1 v (nopsB j).length (Lib.byteCells (nopsB j)) ∧ Below B0 w wr ∧ B0 ≤ wr.heap.size) (fun _ i _ => k - (intOf i).toNat)
  case atStart => exact ⟨0, rfl, Nat.zero_le _, HS.out.1, HS.out.2.1, by have := HS.out.2.1.size; have := HS.out.2.2.2; omega⟩
  case round =>
    obtain ⟨j, rfl, hj, hown, hbel, hsz⟩ := hrel
    by_cases hjk : j < k
    · have hjI : (j : Int) < (k : Int) := by omega
      have q1 : IntKind.i64.wrap ((j : Int) + 1) = (j : Int) + 1 := IntWalk.i64_in _ (by omega)
      obtain ⟨v', w', hr, hown', hg⟩ := app_own hown ⟨#[110, 111, 112, 10]⟩ (by rw [nopsB_len]; show 4 * j + 4 ≤ 1000000; omega) hsz
      rw [show nopsB j ++ (⟨#[110, 111, 112, 10]⟩ : ByteArray).data.toList = nopsB (j + 1) from (nopsB_succ j).symm] at hown'
      have HJ := Lib.hid (And.intro hown' (And.intro (own_below hbel hsz hown hg) (Nat.le_trans hsz hg.size)))
      clear hown hown' hg hbel hsz
      go_wp2_with (at_builtin; refine Lib.wpList_append_run _ rfl _ _ 37 9 rfl _ _ rfl rfl _ w' hr ?_)
      go_roundw
      case rel => exact ⟨j + 1, by first | rfl | (exact congrArg (Value.int .i64) (by omega)), by omega, HJ.out⟩
      case measure => simp [intOf]; omega
    · obtain rfl : j = k := by omega
      have hcv := conv_own hown
      have HB := Lib.hid hbel
      clear hown hbel hsz
      go_wp2
      go_ret
      refine ⟨rfl, ?_⟩
      have := HB.out
      rwa [HS.out.2.2.2] at this
theorem add_lines {S S' : St} {l : Bs} {num : Int} {N : Nat} (h : addP S l num = .inr S') (hS : ∀ x ∈ S.ways, 0 ≤ x.line ∧ x.line ≤ (N : Int)) (hn : 0 ≤ num ∧ num ≤ (N : Int)) : ∀ x ∈ S'.ways, 0 ≤ x.line ∧ x.line ≤ (N : Int) := by
  unfold addP at h
  split at h
  · injection h with h; subst h; exact hS
  · split at h
    · unfold nameP at h
      split at h
      · cases h
      · split at h
        · cases h
        · injection h with h; subst h; exact hS
    · split at h
      · cases h
      · split at h
        · cases h
        · injection h with h
          subst h
          intro x hx
          dsimp only at hx
          split at hx
          · exact hS x hx
          · rcases List.mem_append.1 hx with hx | hx
            · exact hS x hx
            · rw [List.mem_singleton.1 hx]; exact hn
theorem adds_lines (N : Nat) : ∀ (ls : List Bs) (S : St) (n : Nat), (∀ x ∈ S.ways, 0 ≤ x.line ∧ x.line ≤ (N : Int)) → n + ls.length ≤ N →
    (∃ c m, addsP S n ls = .inl (c, m) ∧ 0 ≤ m ∧ m ≤ (N : Int)) ∨ (∃ S', addsP S n ls = .inr S' ∧ ∀ x ∈ S'.ways, 0 ≤ x.line ∧ x.line ≤ (N : Int))
  | [], S, n, h, hn => .inr ⟨S, rfl, h⟩
  | l :: r, S, n, h, hn => by
    rw [List.length_cons] at hn
    rw [adds_cons]
    cases h1 : addP S l ((n : Int) + 1) with
    | inl c => exact .inl ⟨c, _, rfl, by omega, by omega⟩
    | inr S1 => exact adds_lines N r S1 (n + 1) (add_lines h1 h ⟨by omega, by omega⟩) (by omega)
theorem leads_line : ∀ (X : List Way) (T : St) (c : Int × Int), leadsP T X = .inl c → ∃ x ∈ X, c.2 = x.line
  | [], T, c, h => by cases h
  | x :: X, T, c, h => by
    rw [leads_cons] at h
    cases h1 : leadP T x with
    | inl c1 => rw [h1] at h; injection h with h; subst h; exact ⟨x, by simp, rfl⟩
    | inr T1 =>
      rw [h1] at h
      obtain ⟨y, hy, e⟩ := leads_line X T1 c h
      exact ⟨y, by simp [hy], e⟩
theorem asmP_line {ls : List Bs} {c m : Int} (h : asmP ls = .inl (c, m)) : 0 ≤ m ∧ m ≤ (ls.length : Int) := by
  unfold asmP at h
  rcases adds_lines ls.length ls newSt 0 (fun x hx => by cases hx) (by omega) with ⟨c1, m1, h1, h2⟩ | ⟨S, h1, h2⟩
  · rw [h1] at h
    injection h with h
    injection h with _ h
    subst h
    exact h2
  · rw [h1] at h
    dsimp only at h
    cases h3 : leadsP S S.ways with
    | inl d =>
      rw [h3] at h
      injection h with h
      obtain ⟨x, hx, e⟩ := leads_line _ _ _ h3
      rw [h] at e
      dsimp only at e
      rw [e]
      exact h2 x hx
    | inr S' => rw [h3] at h; cases h
/-- what a text and the same text behind lines of nothing come to -/
theorem moves_cases (k : Nat) (hk : k ≤ 900) (t : Bs) :
    (∃ m, asmR (nopsB k ++ t) = ([], m, 94) ∧ (32768 < t.length + 4 * k ∨ 0 < m)) ∨
    (∃ c m, (c = 92 ∨ c = 93) ∧ 0 ≤ m ∧ m ≤ 32768 ∧ asmR t = ([], m, c) ∧ asmR (nopsB k ++ t) = ([], m + (k : Int), c)) ∨
    (∃ p, p.length ≤ 4096 ∧ asmR t = (p, 0, 0) ∧ asmR (nopsB k ++ t) = (List.replicate (4 * k) 0 ++ p, 0, 0)) := by
  have hl : (nopsB k ++ t).length = 4 * k + t.length := by rw [List.length_append, nopsB_len]
  unfold asmR
  rw [hl]
  by_cases h : 32768 < 4 * k + t.length
  · rw [if_pos h]
    exact .inl ⟨0, rfl, .inl (by omega)⟩
  · rw [if_neg h, if_neg (by omega)]
    rcases asm_moves k hk t with ⟨m, hm, h1⟩ | ⟨c, m, hm, h1, h2⟩ | ⟨p, h1, h2⟩
    · rw [h1]; exact .inl ⟨m, rfl, .inr hm⟩
    · rw [h1, h2]
      dsimp only
      by_cases hc : c = 94
      · subst hc
        exact .inl ⟨m + (k : Int), rfl, .inr (by have := hm rfl; omega)⟩
      · have hcode := asmP_code h1
        have hml := asmP_line h1
        have := lines_count t
        exact .inr (.inl ⟨c, m, by omega, hml.1, by omega, rfl, rfl⟩)
    · rw [h1, h2]
      exact .inr (.inr ⟨p, asmP_len h1, rfl, rfl⟩)
theorem make37 (n : Nat) (hn : n ≤ 524288) (w : World) : (Instr.makeSlice 37 (.int .i64 (n : Int)) (.int .i64 (n : Int))).run Tryd.prog w = .ok (.slice (some ⟨w.heap.size, 0, none⟩) n n) (w.alloc (.cells (List.replicate n (Value.int .u8 0)).toArray 5)) := by
  obtain ⟨i0, hi, hz0, hz1, hz2⟩ := info_parts infoB5
  have h := run_make (P := Tryd.prog) w 37 5 i0 (.int .u8 0) Tryd.underlying37 hi hz0 .i64 .i64 (n : Int) (n : Int) (by omega) (by omega) (by rw [hz2]; omega) (by omega)
  rw [hz1] at h
  have e : madeCells (Value.int .u8 0).cells (((n : Int)).toNat * 1) = (List.replicate n (Value.int .u8 0)).toArray := by
    apply Array.ext
    · simp [madeCells]
    · intro i h1 h2
      simp [madeCells, Value.cells, Nat.mod_one]
  rw [e] at h
  simpa using h
theorem conv_zeros (n : Nat) (w : World) : (convert 37 9 (.slice (some ⟨w.heap.size, 0, none⟩) n n)).run Tryd.prog (w.alloc (.cells (List.replicate n (Value.int .u8 0)).toArray 5)) = .ok (.string (str (List.replicate n 0))) (w.alloc (.cells (List.replicate n (Value.int .u8 0)).toArray 5)) := by
  have hb := World.alloc_heap_new w (.cells (List.replicate n (Value.int .u8 0)).toArray 5)
  have := run_convert_bytes_back (P := Tryd.prog) (w.alloc (.cells (List.replicate n (Value.int .u8 0)).toArray 5)) 37 9 5 ⟨w.heap.size, 0, none⟩ n (List.replicate n 0) Tryd.underlying37 Tryd.underlying5 Tryd.underlying9 (fun j hj => by
    have e : (⟨w.heap.size, 0, none⟩ : Addr).add j = ⟨w.heap.size, j, none⟩ := by simp [Addr.add]; intro h; exact h.symm
    rw [e, cell_of_row _ _ _ _ _ _ hb]
    simp at hj
    simp [hj])
  rw [List.length_replicate] at this
  exact this
set_option maxRecDepth 20000 in
set_option maxHeartbeats 4000000 in
theorem moves_law (a : ByteArray) (z : Int) (ha : a.size ≤ 140737488351232) (w : World) (hL : LaidV w) : Calls Tryd.prog 7 #[.string a, .int .i64 z] w fun e w' => e = .returned (.bool true) ∧ Below w.heap.size w w' := by
  have HL := Lib.hid hL
  clear hL
  have KF : Hid (∀ W, LaidV W → Calls Tryd.prog 12 #[] W fun e w' => e = .returned (.bool true) ∧ Below W.heap.size W w') := Lib.hid fun W hW => fixed_any W hW
  have KA := Lib.hid (fun W hW => asm_any a W hW)
  by_cases h0 : z < 0
  · clear KA ha
    go_enter Tryd.func7, Tryd.ntmps7
    go_wp2_with (fail)
    refine (KF.out _ HL.out).mono ?_
    rintro e w1 ⟨rfl, hb1⟩
    have H1 : Hid (Below w.heap.size w w1) := Lib.hid (hb1)
    clear hb1
    go_wp2
    go_ret
    exact ⟨rfl, H1.out⟩
  by_cases h1 : 900 < z
  · clear KA ha
    go_enter Tryd.func7, Tryd.ntmps7
    go_wp2_with (fail)
    refine (KF.out _ HL.out).mono ?_
    rintro e w1 ⟨rfl, hb1⟩
    have H1 : Hid (Below w.heap.size w w1) := Lib.hid (hb1)
    clear hb1
    go_wp2
    go_ret
    exact ⟨rfl, H1.out⟩
  obtain ⟨k, rfl⟩ : ∃ k : Nat, z = (k : Int) := ⟨z.toNat, by omega⟩
  have hk : k ≤ 900 := by omega
  have h0' : ¬ (k : Int) < 0 := h0
  have h1' : ¬ (900 : Int) < (k : Int) := h1
  clear h0 h1
  have KN := Lib.hid (fun W => lines_any k hk W)
  have KB := Lib.hid (fun W hW => asm_any (str (nopsB k) ++ a) W hW)
  have hz : (str (nopsB k) ++ a).data.toList = nopsB k ++ a.data.toList := by simp [str]
  rw [hz] at KB
  have s1 : (str (nopsB k)).size = 4 * k := by rw [str_size, nopsB_len]
  have s2 : (str (nopsB k) ++ a).size = 4 * k + a.size := by rw [ByteArray.size_append, s1]
  have v1 : ¬ 281474976710656 < (str (nopsB k)).size + a.size := by rw [s1]; omega
  have v2 : ¬ 281474976710656 < 4 * k + a.size := by omega
  have u1 : IntKind.i64.wrap (4 * (k : Int)) = 4 * (k : Int) := IntWalk.i64_in _ (by omega)
  have u2 : IntKind.i64.wrap ((a.size : Int) + 4 * (k : Int)) = (a.size : Int) + 4 * (k : Int) := IntWalk.i64_in _ (by omega)
  rcases moves_cases k hk a.data.toList with ⟨m, r2, hm⟩ | ⟨c, m, hc, m0, m1, r1, r2⟩ | ⟨p, hp, r1, r2⟩
  · rw [r2] at KB
    dsimp only at KB
    rw [show (str [] : ByteArray) = { data := #[] } from rfl] at KB
    generalize asmR a.data.toList = R at KA
    obtain ⟨x, l, e0⟩ := R
    dsimp only at KA
    rw [Array.length_toList] at hm
    have hm' : (32768 : Int) < (a.size : Int) + 4 * (k : Int) ∨ (¬ (32768 : Int) < (a.size : Int) + 4 * (k : Int) ∧ (0 : Int) < m) := by
      have : a.data.size = a.size := rfl
      omega
    clear hm r2 hz
    by_cases he : e0 = 94
    · subst he
      rcases hm' with x1 | ⟨x0, x1⟩
      · skip
        go_enter Tryd.func7, Tryd.ntmps7
        go_wp2_with (fail)
        refine (KF.out _ HL.out).mono ?_
        rintro e w1 ⟨rfl, hb1⟩
        have H1 : Hid (Below w.heap.size w w1) := Lib.hid (hb1)
        clear hb1
        go_wp2_with (fail)
        refine (KA.out _ (HL.out.below H1.out)).mono ?_
        rintro e w2 ⟨rfl, hb2⟩
        have H2 : Hid (Below w.heap.size w w2) := Lib.hid (H1.out.trans (hb2.mono H1.out.size))
        clear hb2
        go_wp2_with (fail)
        refine (KN.out _ ).mono ?_
        rintro e w3 ⟨rfl, hb3⟩
        have H3 : Hid (Below w.heap.size w w3) := Lib.hid (H2.out.trans (hb3.mono H2.out.size))
        clear hb3
        go_wp2_with (fail)
        refine (KB.out _ (HL.out.below H3.out)).mono ?_
        rintro e w4 ⟨rfl, hb4⟩
        have H4 : Hid (Below w.heap.size w w4) := Lib.hid (H3.out.trans (hb4.mono H3.out.size))
        clear hb4
        go_wp2
        go_ret
        exact ⟨rfl, H4.out⟩
      · skip
        go_enter Tryd.func7, Tryd.ntmps7
        go_wp2_with (fail)
        refine (KF.out _ HL.out).mono ?_
        rintro e w1 ⟨rfl, hb1⟩
        have H1 : Hid (Below w.heap.size w w1) := Lib.hid (hb1)
        clear hb1
        go_wp2_with (fail)
        refine (KA.out _ (HL.out.below H1.out)).mono ?_
        rintro e w2 ⟨rfl, hb2⟩
        have H2 : Hid (Below w.heap.size w w2) := Lib.hid (H1.out.trans (hb2.mono H1.out.size))
        clear hb2
        go_wp2_with (fail)
        refine (KN.out _ ).mono ?_
        rintro e w3 ⟨rfl, hb3⟩
        have H3 : Hid (Below w.heap.size w w3) := Lib.hid (H2.out.trans (hb3.mono H2.out.size))
        clear hb3
        go_wp2_with (fail)
        refine (KB.out _ (HL.out.below H3.out)).mono ?_
        rintro e w4 ⟨rfl, hb4⟩
        have H4 : Hid (Below w.heap.size w w4) := Lib.hid (H3.out.trans (hb4.mono H3.out.size))
        clear hb4
        go_wp2
        go_ret
        exact ⟨rfl, H4.out⟩
    · have he2 : (e0 == 94) = false := by simpa using he
      rcases hm' with x1 | ⟨x0, x1⟩
      · skip
        go_enter Tryd.func7, Tryd.ntmps7
        go_wp2_with (fail)
        refine (KF.out _ HL.out).mono ?_
        rintro e w1 ⟨rfl, hb1⟩
        have H1 : Hid (Below w.heap.size w w1) := Lib.hid (hb1)
        clear hb1
        go_wp2_with (fail)
        refine (KA.out _ (HL.out.below H1.out)).mono ?_
        rintro e w2 ⟨rfl, hb2⟩
        have H2 : Hid (Below w.heap.size w w2) := Lib.hid (H1.out.trans (hb2.mono H1.out.size))
        clear hb2
        go_wp2_with (fail)
        refine (KN.out _ ).mono ?_
        rintro e w3 ⟨rfl, hb3⟩
        have H3 : Hid (Below w.heap.size w w3) := Lib.hid (H2.out.trans (hb3.mono H2.out.size))
        clear hb3
        go_wp2_with (fail)
        refine (KB.out _ (HL.out.below H3.out)).mono ?_
        rintro e w4 ⟨rfl, hb4⟩
        have H4 : Hid (Below w.heap.size w w4) := Lib.hid (H3.out.trans (hb4.mono H3.out.size))
        clear hb4
        go_wp2
        go_ret
        exact ⟨rfl, H4.out⟩
      · skip
        go_enter Tryd.func7, Tryd.ntmps7
        go_wp2_with (fail)
        refine (KF.out _ HL.out).mono ?_
        rintro e w1 ⟨rfl, hb1⟩
        have H1 : Hid (Below w.heap.size w w1) := Lib.hid (hb1)
        clear hb1
        go_wp2_with (fail)
        refine (KA.out _ (HL.out.below H1.out)).mono ?_
        rintro e w2 ⟨rfl, hb2⟩
        have H2 : Hid (Below w.heap.size w w2) := Lib.hid (H1.out.trans (hb2.mono H1.out.size))
        clear hb2
        go_wp2_with (fail)
        refine (KN.out _ ).mono ?_
        rintro e w3 ⟨rfl, hb3⟩
        have H3 : Hid (Below w.heap.size w w3) := Lib.hid (H2.out.trans (hb3.mono H2.out.size))
        clear hb3
        go_wp2_with (fail)
        refine (KB.out _ (HL.out.below H3.out)).mono ?_
        rintro e w4 ⟨rfl, hb4⟩
        have H4 : Hid (Below w.heap.size w w4) := Lib.hid (H3.out.trans (hb4.mono H3.out.size))
        clear hb4
        go_wp2
        go_ret
        exact ⟨rfl, H4.out⟩
  · rw [r1] at KA
    rw [r2] at KB
    dsimp only at KB
    rw [show (str [] : ByteArray) = { data := #[] } from rfl] at KB
    dsimp only at KA
    rw [show (str [] : ByteArray) = { data := #[] } from rfl] at KA
    have u3 : IntKind.i64.wrap (m + (k : Int)) = m + (k : Int) := IntWalk.i64_in _ (by omega)
    clear r1 r2 hz
    rcases hc with rfl | rfl
    · skip
      go_enter Tryd.func7, Tryd.ntmps7
      go_wp2_with (fail)
      refine (KF.out _ HL.out).mono ?_
      rintro e w1 ⟨rfl, hb1⟩
      have H1 : Hid (Below w.heap.size w w1) := Lib.hid (hb1)
      clear hb1
      go_wp2_with (fail)
      refine (KA.out _ (HL.out.below H1.out)).mono ?_
      rintro e w2 ⟨rfl, hb2⟩
      have H2 : Hid (Below w.heap.size w w2) := Lib.hid (H1.out.trans (hb2.mono H1.out.size))
      clear hb2
      go_wp2_with (fail)
      refine (KN.out _ ).mono ?_
      rintro e w3 ⟨rfl, hb3⟩
      have H3 : Hid (Below w.heap.size w w3) := Lib.hid (H2.out.trans (hb3.mono H2.out.size))
      clear hb3
      go_wp2_with (fail)
      refine (KB.out _ (HL.out.below H3.out)).mono ?_
      rintro e w4 ⟨rfl, hb4⟩
      have H4 : Hid (Below w.heap.size w w4) := Lib.hid (H3.out.trans (hb4.mono H3.out.size))
      clear hb4
      go_wp2
      go_ret
      exact ⟨rfl, H4.out⟩
    · skip
      go_enter Tryd.func7, Tryd.ntmps7
      go_wp2_with (fail)
      refine (KF.out _ HL.out).mono ?_
      rintro e w1 ⟨rfl, hb1⟩
      have H1 : Hid (Below w.heap.size w w1) := Lib.hid (hb1)
      clear hb1
      go_wp2_with (fail)
      refine (KA.out _ (HL.out.below H1.out)).mono ?_
      rintro e w2 ⟨rfl, hb2⟩
      have H2 : Hid (Below w.heap.size w w2) := Lib.hid (H1.out.trans (hb2.mono H1.out.size))
      clear hb2
      go_wp2_with (fail)
      refine (KN.out _ ).mono ?_
      rintro e w3 ⟨rfl, hb3⟩
      have H3 : Hid (Below w.heap.size w w3) := Lib.hid (H2.out.trans (hb3.mono H2.out.size))
      clear hb3
      go_wp2_with (fail)
      refine (KB.out _ (HL.out.below H3.out)).mono ?_
      rintro e w4 ⟨rfl, hb4⟩
      have H4 : Hid (Below w.heap.size w w4) := Lib.hid (H3.out.trans (hb4.mono H3.out.size))
      clear hb4
      go_wp2
      go_ret
      exact ⟨rfl, H4.out⟩
  · rw [r1] at KA
    rw [r2] at KB
    dsimp only at KA KB
    rw [str_add] at KB
    have MK : Hid (∀ W : World, (Instr.makeSlice 37 (.int .i64 (4 * (k : Int))) (.int .i64 (4 * (k : Int)))).run Tryd.prog W = .ok (.slice (some ⟨W.heap.size, 0, none⟩) (4 * k) (4 * k)) (W.alloc (.cells (List.replicate (4 * k) (Value.int .u8 0)).toArray 5))) := Lib.hid fun W => by
      have := make37 (4 * k) (by omega) W
      rwa [show (((4 * k : Nat) : Int)) = 4 * (k : Int) from by omega] at this
    have CV := Lib.hid (fun W => conv_zeros (4 * k) W)
    have t1 : (str (List.replicate (4 * k) 0)).size = 4 * k := by rw [str_size, List.length_replicate]
    have t2 : (str p).size = p.length := str_size p
    have t3 : ¬ 281474976710656 < (str (List.replicate (4 * k) 0)).size + (str p).size := by rw [t1, t2]; omega
    have t4 : ¬ 281474976710656 < 4 * k + p.length := by omega
    clear r1 r2 hz
    go_enter Tryd.func7, Tryd.ntmps7
    go_wp2_with (fail)
    refine (KF.out _ HL.out).mono ?_
    rintro e w1 ⟨rfl, hb1⟩
    have H1 : Hid (Below w.heap.size w w1) := Lib.hid (hb1)
    clear hb1
    go_wp2_with (fail)
    refine (KA.out _ (HL.out.below H1.out)).mono ?_
    rintro e w2 ⟨rfl, hb2⟩
    have H2 : Hid (Below w.heap.size w w2) := Lib.hid (H1.out.trans (hb2.mono H1.out.size))
    clear hb2
    go_wp2_with (fail)
    refine (KN.out _ ).mono ?_
    rintro e w3 ⟨rfl, hb3⟩
    have H3 : Hid (Below w.heap.size w w3) := Lib.hid (H2.out.trans (hb3.mono H2.out.size))
    clear hb3
    go_wp2_with (fail)
    refine (KB.out _ (HL.out.below H3.out)).mono ?_
    rintro e w4 ⟨rfl, hb4⟩
    have H4 : Hid (Below w.heap.size w w4) := Lib.hid (H3.out.trans (hb4.mono H3.out.size))
    clear hb4
    have hmk := MK.out w4
    have hcv := CV.out w4
    obtain ⟨w5, hw5⟩ : ∃ w5, w5 = w4.alloc (.cells (List.replicate (4 * k) (Value.int .u8 0)).toArray 5) := ⟨_, rfl⟩
    rw [← hw5] at hmk hcv
    have H5 : Hid (Below w.heap.size w w5) := Lib.hid (by rw [hw5]; exact H4.out.alloc H4.out.size _)
    clear hw5
    go_wp2
    go_ret
    exact ⟨rfl, H5.out⟩
end Go.Proofs.YtmclcobklcjmnaaDoor
