/- Two programs' texts one behind the other: the walk of the law. Conditions: texts that a machine holds. -/
import Derived.Test.YtmclcobklcjmnaaDoorFxd
namespace Go.Proofs.YtmclcobklcjmnaaDoor
open Go.RowKit Go.Maps
set_option linter.unusedVariables false
set_option linter.unusedSimpArgs false

theorem asmP_code {l : List Bs} {c n : Int} (h : asmP l = .inl (c, n)) : c = 92 ∨ c = 93 ∨ c = 94 := by
  unfold asmP at h
  cases h1 : addsP newSt 0 l with
  | inl d =>
    rw [h1] at h
    injection h with h
    subst h
    have : ∀ (ls : List Bs) (S : St) (n : Nat) (d : Int × Int), addsP S n ls = .inl d → d.1 = 92 ∨ d.1 = 93 ∨ d.1 = 94 := by
      intro ls
      induction ls with
      | nil => intro S n d h; cases h
      | cons l r ih =>
        intro S n d h
        rw [adds_cons] at h
        cases h2 : addP S l ((n : Int) + 1) with
        | inl c => rw [h2] at h; injection h with h; subst h; exact add_code h2
        | inr S' => rw [h2] at h; exact ih S' (n + 1) d h
    exact this _ _ _ _ h1
  | inr S =>
    rw [h1] at h
    dsimp only at h
    cases h2 : leadsP S S.ways with
    | inl d => rw [h2] at h; injection h with h; subst h; have := leads_code _ _ _ h2; exact .inr (.inl this)
    | inr S' => rw [h2] at h; cases h
theorem asmP_len {l : List Bs} {p : Bs} (h : asmP l = .inr p) : p.length ≤ 4096 := by
  unfold asmP at h
  cases h1 : addsP newSt 0 l with
  | inl d => rw [h1] at h; cases h
  | inr S =>
    rw [h1] at h
    dsimp only at h
    obtain ⟨g, -⟩ := adds_good new_good h1
    cases h2 : leadsP S S.ways with
    | inl d => rw [h2] at h; cases h
    | inr S' =>
      rw [h2] at h
      injection h with h
      obtain ⟨g', _, e⟩ := leads_keep S.ways S S' g (fun x hx => (g.way x hx).1) h2
      rw [← h]
      exact g'.ok.2
theorem asmR_cases (l : Bs) : (∃ p, asmR l = (p, 0, 0) ∧ asmP (linesB l) = .inr p ∧ p.length ≤ 4096 ∧ l.length ≤ 32768) ∨
    (∃ n c, asmR l = ([], n, c) ∧ (c = 92 ∨ c = 93 ∨ c = 94) ∧ ((32768 < l.length ∧ c = 94 ∧ n = 0) ∨ (l.length ≤ 32768 ∧ asmP (linesB l) = .inl (c, n)))) := by
  unfold asmR
  by_cases h : 32768 < l.length
  · rw [if_pos h]
    exact .inr ⟨0, 94, rfl, .inr (.inr rfl), .inl ⟨h, rfl, rfl⟩⟩
  · rw [if_neg h]
    cases h1 : asmP (linesB l) with
    | inl d => exact .inr ⟨d.2, d.1, rfl, asmP_code h1, .inr ⟨by omega, rfl⟩⟩
    | inr p => exact .inl ⟨p, rfl, rfl, asmP_len h1, by omega⟩
set_option maxRecDepth 20000 in
set_option maxHeartbeats 4000000 in
theorem joins_law (a b : ByteArray) (ha : a.size ≤ 140737488351232) (hb : b.size ≤ 140737488351232) (w : World) (hL : LaidV w) : Calls Tryd.prog 8 #[.string a, .string b] w fun e w' => e = .returned (.bool true) ∧ Below w.heap.size w w' := by
  have HL := Lib.hid hL
  have KF : Hid (∀ W, LaidV W → Calls Tryd.prog 12 #[] W fun e w' => e = .returned (.bool true) ∧ Below W.heap.size W w') := Lib.hid fun W hW => fixed_any W hW
  have KA := Lib.hid (fun W hW => asm_any a W hW)
  have KB := Lib.hid (fun W hW => asm_any b W hW)
  rcases asmR_cases a.data.toList with ⟨p, ea, hpa, lp, la⟩ | ⟨n, c, ea, hc, -⟩
  · rw [ea] at KA
    dsimp only at KA
    rcases asmR_cases b.data.toList with ⟨q, eb, hpb, lq, lb⟩ | ⟨m, d, eb, hd, -⟩
    · rw [eb] at KB
      dsimp only at KB
      have hz : (a ++ { data := #[10] } ++ b).data.toList = a.data.toList ++ 10 :: b.data.toList := by simp
      rw [Array.length_toList] at la lb
      have la' : a.size ≤ 32768 := la
      have lb' : b.size ≤ 32768 := lb
      have KZ := Lib.hid (fun W hW => asm_any (a ++ { data := #[10] } ++ b) W hW)
      rw [hz] at KZ
      have hcases : (∃ m', 0 < m' ∧ asmR (a.data.toList ++ 10 :: b.data.toList) = ([], m', 93)) ∨ (∃ m', asmR (a.data.toList ++ 10 :: b.data.toList) = ([], m', 94) ∧ (4096 < p.length + q.length ∨ 32768 < a.size + b.size + 1)) ∨ asmR (a.data.toList ++ 10 :: b.data.toList) = (p ++ q, 0, 0) := by
        have hl : (a.data.toList ++ 10 :: b.data.toList).length = a.size + b.size + 1 := by
          rw [List.length_append, List.length_cons, Array.length_toList, Array.length_toList]; show a.size + (b.size + 1) = _; omega
        unfold asmR
        rw [hl]
        by_cases h : 32768 < a.size + b.size + 1
        · rw [if_pos h]; exact .inr (.inl ⟨0, rfl, .inr h⟩)
        · rw [if_neg h]
          rcases asm_join _ _ _ _ hpa hpb with h1 | ⟨m', hm, h1⟩ | ⟨m', hm, h1, h2⟩
          · rw [h1]; exact .inr (.inr rfl)
          · rw [h1]; exact .inl ⟨m', hm, rfl⟩
          · rw [h1]; exact .inr (.inl ⟨m', rfl, .inl h2⟩)
      have s1 : (str p).size = p.length := str_size p
      have s2 : (str q).size = q.length := str_size q
      have s3 : (a ++ ({ data := #[10] } : ByteArray)).size = a.size + 1 := by rw [ByteArray.size_append]; rfl
      have s4 : (a ++ ({ data := #[10] } : ByteArray) ++ b).size = a.size + 1 + b.size := by rw [ByteArray.size_append, ByteArray.size_append]; rfl
      have u1 : IntKind.i64.wrap ((p.length : Int) + (q.length : Int)) = (p.length : Int) + (q.length : Int) := IntWalk.i64_in _ (by omega)
      have u2 : IntKind.i64.wrap ((a.size : Int) + (b.size : Int)) = (a.size : Int) + (b.size : Int) := IntWalk.i64_in _ (by omega)
      have u3 : IntKind.i64.wrap ((a.size : Int) + (b.size : Int) + 1) = (a.size : Int) + (b.size : Int) + 1 := IntWalk.i64_in _ (by omega)
      have v1 : ¬ 281474976710656 < a.size + 1 := by omega
      have v2 : ¬ 281474976710656 < a.size + 1 + b.size := by omega
      clear hz hpa hpb ea eb la lb
      rcases hcases with ⟨m', hm, h1⟩ | ⟨m', h1, h2⟩ | h1
      · rw [h1] at KZ
        dsimp only at KZ
        rw [show (str [] : ByteArray) = { data := #[] } from rfl] at KZ
        have hm' : (0 : Int) < m' := hm
        clear h1
        go_enter Tryd.func8, Tryd.ntmps8
        go_wp2_with (fail)
        refine (KA.out _ HL.out).mono ?_
        rintro e w1 ⟨rfl, hb1⟩
        have H1 : Hid (Below w.heap.size w w1) := Lib.hid (hb1)
        clear hb1
        go_wp2_with (fail)
        refine (KB.out _ (HL.out.below H1.out)).mono ?_
        rintro e w2 ⟨rfl, hb2⟩
        have H2 : Hid (Below w.heap.size w w2) := Lib.hid (H1.out.trans (hb2.mono H1.out.size))
        clear hb2
        go_wp2_with (fail)
        refine (KF.out _ (HL.out.below H2.out)).mono ?_
        rintro e w3 ⟨rfl, hb3⟩
        have H3 : Hid (Below w.heap.size w w3) := Lib.hid (H2.out.trans (hb3.mono H2.out.size))
        clear hb3
        go_wp2_with (fail)
        refine (KZ.out _ (HL.out.below H3.out)).mono ?_
        rintro e w4 ⟨rfl, hb4⟩
        have H4 : Hid (Below w.heap.size w w4) := Lib.hid (H3.out.trans (hb4.mono H3.out.size))
        clear hb4
        go_wp2
        go_ret
        exact ⟨rfl, H4.out⟩
      · rw [h1] at KZ
        dsimp only at KZ
        rw [show (str [] : ByteArray) = { data := #[] } from rfl] at KZ
        clear h1
        have h2' : 4096 < p.length + q.length ∨ (¬ 4096 < p.length + q.length ∧ 32768 < a.size + b.size + 1) := by omega
        clear h2
        rcases h2' with h2 | ⟨h3, h2⟩
        · have x1 : (4096 : Int) < (p.length : Int) + (q.length : Int) := by omega
          go_enter Tryd.func8, Tryd.ntmps8
          go_wp2_with (fail)
          refine (KA.out _ HL.out).mono ?_
          rintro e w1 ⟨rfl, hb1⟩
          have H1 : Hid (Below w.heap.size w w1) := Lib.hid (hb1)
          clear hb1
          go_wp2_with (fail)
          refine (KB.out _ (HL.out.below H1.out)).mono ?_
          rintro e w2 ⟨rfl, hb2⟩
          have H2 : Hid (Below w.heap.size w w2) := Lib.hid (H1.out.trans (hb2.mono H1.out.size))
          clear hb2
          go_wp2_with (fail)
          refine (KF.out _ (HL.out.below H2.out)).mono ?_
          rintro e w3 ⟨rfl, hb3⟩
          have H3 : Hid (Below w.heap.size w w3) := Lib.hid (H2.out.trans (hb3.mono H2.out.size))
          clear hb3
          go_wp2_with (fail)
          refine (KZ.out _ (HL.out.below H3.out)).mono ?_
          rintro e w4 ⟨rfl, hb4⟩
          have H4 : Hid (Below w.heap.size w w4) := Lib.hid (H3.out.trans (hb4.mono H3.out.size))
          clear hb4
          go_wp2
          go_ret
          exact ⟨rfl, H4.out⟩
        · have x0 : ¬ (4096 : Int) < (p.length : Int) + (q.length : Int) := by omega
          clear h3
          have x1 : (32768 : Int) < (a.size : Int) + (b.size : Int) + 1 := by omega
          go_enter Tryd.func8, Tryd.ntmps8
          go_wp2_with (fail)
          refine (KA.out _ HL.out).mono ?_
          rintro e w1 ⟨rfl, hb1⟩
          have H1 : Hid (Below w.heap.size w w1) := Lib.hid (hb1)
          clear hb1
          go_wp2_with (fail)
          refine (KB.out _ (HL.out.below H1.out)).mono ?_
          rintro e w2 ⟨rfl, hb2⟩
          have H2 : Hid (Below w.heap.size w w2) := Lib.hid (H1.out.trans (hb2.mono H1.out.size))
          clear hb2
          go_wp2_with (fail)
          refine (KF.out _ (HL.out.below H2.out)).mono ?_
          rintro e w3 ⟨rfl, hb3⟩
          have H3 : Hid (Below w.heap.size w w3) := Lib.hid (H2.out.trans (hb3.mono H2.out.size))
          clear hb3
          go_wp2_with (fail)
          refine (KZ.out _ (HL.out.below H3.out)).mono ?_
          rintro e w4 ⟨rfl, hb4⟩
          have H4 : Hid (Below w.heap.size w w4) := Lib.hid (H3.out.trans (hb4.mono H3.out.size))
          clear hb4
          go_wp2
          go_ret
          exact ⟨rfl, H4.out⟩
      · rw [h1] at KZ
        dsimp only at KZ
        rw [str_add] at KZ
        clear h1
        go_enter Tryd.func8, Tryd.ntmps8
        go_wp2_with (fail)
        refine (KA.out _ HL.out).mono ?_
        rintro e w1 ⟨rfl, hb1⟩
        have H1 : Hid (Below w.heap.size w w1) := Lib.hid (hb1)
        clear hb1
        go_wp2_with (fail)
        refine (KB.out _ (HL.out.below H1.out)).mono ?_
        rintro e w2 ⟨rfl, hb2⟩
        have H2 : Hid (Below w.heap.size w w2) := Lib.hid (H1.out.trans (hb2.mono H1.out.size))
        clear hb2
        go_wp2_with (fail)
        refine (KF.out _ (HL.out.below H2.out)).mono ?_
        rintro e w3 ⟨rfl, hb3⟩
        have H3 : Hid (Below w.heap.size w w3) := Lib.hid (H2.out.trans (hb3.mono H2.out.size))
        clear hb3
        go_wp2_with (fail)
        refine (KZ.out _ (HL.out.below H3.out)).mono ?_
        rintro e w4 ⟨rfl, hb4⟩
        have H4 : Hid (Below w.heap.size w w4) := Lib.hid (H3.out.trans (hb4.mono H3.out.size))
        clear hb4
        go_wp2
        go_ret
        exact ⟨rfl, H4.out⟩
    · rw [eb] at KB
      dsimp only at KB
      rw [show (str [] : ByteArray) = { data := #[] } from rfl] at KB
      have hd0 : (d == 0) = false := by rcases hd with rfl | rfl | rfl <;> rfl
      have hdn : ¬ d = 0 := by rcases hd with rfl | rfl | rfl <;> decide
      clear hd eb
      clear ea hpa lp la
      go_enter Tryd.func8, Tryd.ntmps8
      go_wp2_with (fail)
      refine (KA.out _ HL.out).mono ?_
      rintro e w1 ⟨rfl, hb1⟩
      have H1 : Hid (Below w.heap.size w w1) := Lib.hid (hb1)
      clear hb1
      go_wp2_with (fail)
      refine (KB.out _ (HL.out.below H1.out)).mono ?_
      rintro e w2 ⟨rfl, hb2⟩
      have H2 : Hid (Below w.heap.size w w2) := Lib.hid (H1.out.trans (hb2.mono H1.out.size))
      clear hb2
      go_wp2_with (fail)
      refine (KF.out _ (HL.out.below H2.out)).mono ?_
      rintro e w3 ⟨rfl, hb3⟩
      have H3 : Hid (Below w.heap.size w w3) := Lib.hid (H2.out.trans (hb3.mono H2.out.size))
      clear hb3
      go_wp2
      go_ret
      exact ⟨rfl, H3.out⟩
  · rw [ea] at KA
    dsimp only at KA
    rw [show (str [] : ByteArray) = { data := #[] } from rfl] at KA
    rcases asmR_cases b.data.toList with ⟨q, eb, hpb, lq, lb⟩ | ⟨m, d, eb, hd, -⟩
    · rw [eb] at KB
      dsimp only at KB
      have hc0 : (c == 0) = false := by rcases hc with rfl | rfl | rfl <;> rfl
      have hcn : ¬ c = 0 := by rcases hc with rfl | rfl | rfl <;> decide
      clear hc ea
      clear eb hpb lq lb
      go_enter Tryd.func8, Tryd.ntmps8
      go_wp2_with (fail)
      refine (KA.out _ HL.out).mono ?_
      rintro e w1 ⟨rfl, hb1⟩
      have H1 : Hid (Below w.heap.size w w1) := Lib.hid (hb1)
      clear hb1
      go_wp2_with (fail)
      refine (KB.out _ (HL.out.below H1.out)).mono ?_
      rintro e w2 ⟨rfl, hb2⟩
      have H2 : Hid (Below w.heap.size w w2) := Lib.hid (H1.out.trans (hb2.mono H1.out.size))
      clear hb2
      go_wp2_with (fail)
      refine (KF.out _ (HL.out.below H2.out)).mono ?_
      rintro e w3 ⟨rfl, hb3⟩
      have H3 : Hid (Below w.heap.size w w3) := Lib.hid (H2.out.trans (hb3.mono H2.out.size))
      clear hb3
      go_wp2
      go_ret
      exact ⟨rfl, H3.out⟩
    · rw [eb] at KB
      dsimp only at KB
      rw [show (str [] : ByteArray) = { data := #[] } from rfl] at KB
      have hc0 : (c == 0) = false := by rcases hc with rfl | rfl | rfl <;> rfl
      have hcn : ¬ c = 0 := by rcases hc with rfl | rfl | rfl <;> decide
      clear hc ea
      have hd0 : (d == 0) = false := by rcases hd with rfl | rfl | rfl <;> rfl
      have hdn : ¬ d = 0 := by rcases hd with rfl | rfl | rfl <;> decide
      clear hd eb
      go_enter Tryd.func8, Tryd.ntmps8
      go_wp2_with (fail)
      refine (KA.out _ HL.out).mono ?_
      rintro e w1 ⟨rfl, hb1⟩
      have H1 : Hid (Below w.heap.size w w1) := Lib.hid (hb1)
      clear hb1
      go_wp2_with (fail)
      refine (KB.out _ (HL.out.below H1.out)).mono ?_
      rintro e w2 ⟨rfl, hb2⟩
      have H2 : Hid (Below w.heap.size w w2) := Lib.hid (H1.out.trans (hb2.mono H1.out.size))
      clear hb2
      go_wp2_with (fail)
      refine (KF.out _ (HL.out.below H2.out)).mono ?_
      rintro e w3 ⟨rfl, hb3⟩
      have H3 : Hid (Below w.heap.size w w3) := Lib.hid (H2.out.trans (hb3.mono H2.out.size))
      clear hb3
      go_wp2
      go_ret
      exact ⟨rfl, H3.out⟩
end Go.Proofs.YtmclcobklcjmnaaDoor
