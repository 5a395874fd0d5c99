/- No text of the language is longer than a hit, or begins ahead of it: the law's walk. Conditions: the expression lies in memory, its sets' numbers are of 64 bits. -/
import Derived.Test.YtdmajbdgjjmlkaaStw
import Derived.Test.YtdmajbdgjjmlkaaLgp
namespace Go.Proofs.Ytdmajbdgjjmlkaa
open Go.RowKit
set_option linter.unusedVariables false
set_option linter.unusedSimpArgs false

set_option maxRecDepth 100000 in
set_option maxHeartbeats 8000000 in
theorem longest_walk (t : Rx) (sv : Value) (s : ByteArray) (w : World) (hl : LiesL (fun _ => True) w sv t.list) (hok : okR t) :
    Calls Try.prog 7 #[t.val sv, .string s] w fun e w' => e = .returned (.bool true) ∧ Below w.heap.size w w' := by
  obtain ⟨ao, cap, rfl⟩ := hl.value
  have KN := fun (o : Obj) => fits_any (w.alloc o) t _ (hl.stay (below_new w o)) hok
  obtain ⟨M, hM⟩ : ∃ M, M = macR t := ⟨_, rfl⟩
  unfold FitsPost at KN
  rw [← hM] at KN
  obtain ⟨B, hB⟩ : ∃ B, B = w.heap.size := ⟨_, rfl⟩
  have hal : ∀ o w', Below (w.alloc o).heap.size (w.alloc o) w' → Below B w w' := fun o w' h => by rw [hB]; exact below_trans (below_new w o) h
  rw [← hB]
  obtain ⟨L, hL⟩ : ∃ L, L = M.hitsL s.data.toList := ⟨_, rfl⟩
  have hR0 := rest_first M s.data.toList
  rw [← hL] at hR0
  have hlen : s.data.toList.length = s.size := Array.length_toList
  obtain ⟨Q, hQ⟩ : ∃ Q : Nat → World → Prop, Q = fun p w1 => (IsM B p M w1 ∧ Mok M) ∧ Below B w w1 := ⟨_, rfl⟩
  have QE : Hid (∀ p w1, Q p w1 → Below B w w1) := Lib.hid (by rw [hQ]; exact fun p w1 h => h.2)
  have QB : ∀ p w1 w2, Q p w1 → Below w1.heap.size w1 w2 → Q p w2 := by
    rw [hQ]; exact fun p w1 w2 h hb => ⟨⟨h.1.1.of_below hb, h.1.2⟩, h.2.trans (hb.mono (by have := h.2.size; omega))⟩
  have QI : ∀ p w1, Q p w1 → IsM B p M w1 ∧ Mok M := by rw [hQ]; exact fun p w1 h => h.1
  have K1 : Hid (∀ o, Calls Try.prog 25 #[t.val (.slice ao t.list.length cap)] (w.alloc o) fun e w' => (e = .returned (.pointer none) ∧ Hid (Below B w w')) ∨ (∃ p, e = .returned (.pointer (some ⟨p, 0, none⟩)) ∧ Q p w')) := Lib.hid fun o => (KN o).mono fun e w' h => by
    obtain ⟨hb, ⟨hc, he⟩ | ⟨hc, p, he, hi, hm⟩⟩ := h
    · exact .inl ⟨he, Lib.hid (hal o w' hb)⟩
    · exact .inr ⟨p, he, by rw [hQ]; exact ⟨⟨hi.mono (by rw [hB]; simp), hm⟩, hal o w' hb⟩⟩
  have KF : Hid (∀ w1, Below B w w1 → Calls Try.prog 12 #[] w1 fun e w' => e = .returned (.bool true) ∧ Hid (Below B w w')) := Lib.hid fun w1 hb => (fixed_any w1).mono fun e w' h => ⟨h.1, Lib.hid (hb.trans (h.2.mono (by have := hb.size; omega)))⟩
  have KFQ : Hid (∀ p w1, Q p w1 → Calls Try.prog 12 #[] w1 fun e w' => e = .returned (.bool true) ∧ Q p w') := Lib.hid fun p w1 h => (fixed_any w1).mono fun e w' g => ⟨g.1, QB p w1 w' h g.2⟩
  have T1 : Hid (∀ p w1, Q p w1 → Calls Try.prog 21 #[.pointer (some ⟨p, 0, none⟩), .string s] w1 fun e w' => ∃ ao cap, e = .returned (.slice ao L.length cap) ∧ Hid (PrAt w' (.slice ao L.length cap) L) ∧ Q p w') := Lib.hid fun p w1 h => by
    have := hits_any _ p M w1 (QI p w1 h).1 (QI p w1 h).2 s
    rw [← hL] at this
    refine this.mono fun e w' g => ?_
    obtain ⟨⟨v, rfl, ho⟩, hb⟩ := g
    have hp := own_pr ho
    obtain ⟨ao, cap, rfl⟩ := own_slice' ho
    exact ⟨ao, cap, rfl, Lib.hid hp, QB p w1 w' h hb⟩
  have I1 : Hid (∀ p w1 (a b : Nat) r, Q p w1 → M.bIn s.data.toList a b = r → Calls Try.prog 26 #[.pointer (some ⟨p, 0, none⟩), .string (s.extract a b)] w1 fun e w' => e = .returned (.bool r) ∧ Q p w' ∧ Hid (Below w1.heap.size w1 w')) := Lib.hid fun p w1 a b r h hr => by
    have := in_any _ p M w1 (QI p w1 h).1 (QI p w1 h).2 (s.extract a b)
    rw [extract_list] at this
    unfold Mac.bIn at hr
    rw [hr] at this
    exact this.mono fun e w' g => ⟨g.1, QB p w1 w' h g.2, Lib.hid g.2⟩
  have PQ := Lib.hid QB
  have HR0 := Lib.hid hR0
  have HLEN := Lib.hid hlen
  have KZ := K1.out
  obtain ⟨k, mn, mx, s0, s1, s2, s3, ls⟩ := t
  unfold Rx.val Rx.cells cellsX at K1 ⊢
  dsimp only [Rx.list] at K1 ⊢
  clear hl hok KN hM hB hL hR0 hQ QB QI KZ hal hlen
  by_cases hs24 : 24 < s.size
  · have hsi : (24 : Int) < (s.size : Int) := by omega
    clear hs24
    go_enter Try.func7, Try.ntmps7
    go_wp2_with (first
      | (go_at_call 25; (with_reducible refine (K1.out _).mono ?_); rintro e w1 (⟨rfl, hb1⟩ | ⟨p, rfl, J1⟩)))
    · go_wp2_with (go_at_call 12; (with_reducible refine (KF.out _ hb1.out).mono ?_); rintro e w2 ⟨rfl, hb2⟩)
      go_ret
      exact ⟨rfl, hb2.out⟩
    · go_wp2_with (go_at_call 12; (with_reducible refine (KFQ.out _ _ J1).mono ?_); rintro e w2 ⟨rfl, J2⟩)
      go_ret
      exact ⟨rfl, QE.out _ _ J2⟩
  · have hsi : ¬ (24 : Int) < (s.size : Int) := by omega
    have HS : Hid (s.size ≤ 24) := Lib.hid (by omega)
    clear hs24
    go_enter Try.func7, Try.ntmps7
    go_wp2_with (first
      | (go_at_call 25; (with_reducible refine (K1.out _).mono ?_); rintro e w1 (⟨rfl, hb1⟩ | ⟨p, rfl, J1⟩)))
    · go_wp2_with (go_at_call 12; (with_reducible refine (KF.out _ hb1.out).mono ?_); rintro e w2 ⟨rfl, hb2⟩)
      go_ret
      exact ⟨rfl, hb2.out⟩
    go_wp2_with (first
      | (go_at_call 12; (with_reducible refine (KFQ.out _ _ J1).mono ?_); rintro e w2 ⟨rfl, J2⟩; clear J1)
      | (go_at_call 21; (with_reducible refine (T1.out _ _ J2).mono ?_); rintro e w3 ⟨bo, caq, rfl, HPR, J3⟩; clear J2))
    have hfew : L.length ≤ 24 := by
      have : ∀ (l : List (Nat × Nat)) (a : Nat), Rest M s.data.toList l a → l.length ≤ s.data.toList.length - a := by
        intro l
        induction l with
        | nil => intro a _; simp
        | cons x l ih =>
          intro a h
          obtain ⟨h1, h2⟩ := h.cons
          have := Mac.hitI_some h1
          have := ih x.2 h2
          rw [List.length_cons]
          omega
      have := this L 0 HR0.out
      have := HLEN.out
      have := HS.out
      omega
    have hLi : (L.length : Int) ≤ 24 := by omega
    obtain ⟨P, hP⟩ : ∃ P : World → Prop, P = fun wr => Q p wr ∧ Below w3.heap.size w3 wr := ⟨_, rfl⟩
    have P0 : Hid (P w3) := Lib.hid (by rw [hP]; exact ⟨J3, Below.refl _ _⟩)
    have PC : Hid (∀ wr j (x : Nat × Nat), P wr → L[j]? = some x → ∃ a, bo = some a ∧ wr.cell? (a.add (j * 2)) = some (.int .i64 (x.1 : Nat)) ∧ wr.cell? ⟨(a.add (j * 2)).block, (a.add (j * 2)).off + 1, none⟩ = some (.int .i64 (x.2 : Nat))) := Lib.hid (by
      rw [hP]
      intro wr j x h hx
      obtain ⟨ao', cap', hv, hc⟩ := HPR.out.below h.2
      obtain ⟨rfl, -, -⟩ := Value.slice.inj hv
      exact hc j x hx)
    have PD : Hid (∀ wr n, P wr → P (wr.drewN n)) := Lib.hid (by
      rw [hP]
      intro wr n h
      have hb : Below wr.heap.size wr (wr.drewN n) := below_drewN (Below.refl _ _) n
      exact ⟨PQ.out p wr _ h.1 hb, h.2.trans (hb.mono h.2.size)⟩)
    have PI : Hid (∀ wr (a b : Nat) r, P wr → M.bIn s.data.toList a b = r → Calls Try.prog 26 #[.pointer (some ⟨p, 0, none⟩), .string (s.extract a b)] wr fun e w' => e = .returned (.bool r) ∧ P w') := Lib.hid (by
      rw [hP]
      intro wr a b r h he
      exact (I1.out p wr a b r h.1 he).mono fun e w' g => ⟨g.1, g.2.1, h.2.trans (g.2.2.out.mono h.2.size)⟩)
    have PE : Hid (∀ wr, P wr → Below B w wr) := Lib.hid (by rw [hP]; exact fun wr h => QE.out p wr h.1)
    clear hP hfew J3 KF KFQ T1 I1 HPR K1
    go_loopw [7, 8] (fun v i wr => ∃ j a : Nat, j ≤ L.length + 1 ∧ i = .int .i64 (j : Nat) ∧ v = .int .i64 (a : Nat) ∧ a ≤ s.size ∧ P wr ∧ Hid (j ≤ L.length → Rest M s.data.toList (L.drop j) a)) (fun _ i _ => L.length + 1 - (intOf i).toNat)
    case atStart => exact ⟨0, 0, Nat.zero_le _, rfl, rfl, Nat.zero_le _, P0.out, Lib.hid (fun _ => by rw [List.drop_zero]; exact HR0.out)⟩
    case round =>
      obtain ⟨j, at_, hj, rfl, rfl, hat, hPw, hR⟩ := hrel
      by_cases hle : j ≤ L.length
      · have hjl : (j : Int) ≤ (L.length : Int) := by omega
        by_cases hlt : j < L.length
        · have hji : (j : Int) < (L.length : Int) := by omega
          have hxj : L[j]? = some L[j] := List.getElem?_eq_getElem hlt
          have hd := List.drop_eq_getElem_cons hlt
          generalize L[j] = x at *
          have hRR := hR.out hle
          rw [hd] at hRR
          obtain ⟨r1, r2⟩ := hRR.cons
          have hb := Mac.hitI_some r1
          obtain ⟨m1, m2⟩ := Mac.hit_long r1
          obtain ⟨bg, en⟩ := x
          dsimp only at r1 r2 hb m1 m2
          rw [HLEN.out] at hb m2
          have b1 : ¬ (bg : Int) < (at_ : Int) := by omega
          have b2 : ¬ (en : Int) ≤ (bg : Int) := by omega
          have b3 : ¬ (s.size : Int) < (en : Int) := by omega
          have b4 : (bg : Int) ≤ (en : Int) := by omega
          have b5 : (en : Int) ≤ (s.size : Int) := by omega
          have hsz : (s.size : Int) ≤ 24 := by omega
          have KM := Lib.hid (fun wr h => PI.out wr bg en true h m1)
          have HM2 : Hid (∀ a b, at_ ≤ a → a ≤ bg → a < b → b ≤ s.size → M.bIn s.data.toList a b = true → a = bg ∧ b ≤ en) := Lib.hid m2
          have HN := Lib.hid (And.intro hle (And.intro (show j + 1 ≤ L.length + 1 by omega) (And.intro (show en ≤ s.size by omega) (fun _ : j + 1 ≤ L.length => r2))))
          have HAB : Hid (at_ ≤ bg ∧ bg ≤ s.size) := Lib.hid (by omega)
          obtain ⟨d, hd2, e1, e2⟩ := PC.out _ _ _ hPw hxj
          have e1d : wr.drew.cell? (d.add (j * 2)) = some (.int .i64 (bg : Nat)) := e1
          have e2d : wr.drew.cell? ⟨(d.add (j * 2)).block, (d.add (j * 2)).off + 1, none⟩ = some (.int .i64 (en : Nat)) := e2
          dsimp only at e1 e2
          subst hd2
          clear hR hRR r1 r2 hb hd hxj hlt hj m1 m2 hle hat
          go_wp2
          go_quiet (fail)
          have hP9 := PD.out _ nq hPw
          generalize wr.drewN nq = w9 at *
          clear e1 e2 e1d e2d hPw
          go_wp2_with (go_at_call 26; (with_reducible refine (KM.out _ hP9).mono ?_); rintro e w4 ⟨rfl, hPx⟩; clear hP9)
          clear b1 b2 b3 b4 b5
          generalize decide (bg < at_) = D1 at *
          generalize decide (en ≤ bg) = D2 at *
          generalize decide (s.size < en) = D3 at *
          go_loopw [11] (fun v wq => ∃ a : Nat, at_ ≤ a ∧ a ≤ bg + 1 ∧ v = .int .i64 (a : Nat) ∧ P wq) (fun v _ => bg + 1 - (intOf v).toNat)
          case atStart => exact ⟨at_, Nat.le_refl _, by have := HAB.out; omega, rfl, hPx⟩
          case round =>
            obtain ⟨a, ha1, ha2, rfl, hPy⟩ := hrel
            clear hPx
            by_cases hab : a ≤ bg
            · have habi : (a : Int) ≤ (bg : Int) := by omega
              have ha24 : (a : Int) ≤ 24 := by have := HAB.out; omega
              have HA := Lib.hid (And.intro ha1 hab)
              clear ha1 ha2 hab
              generalize wr = wo at *
              go_wp2
              go_loopw [12] (fun v wq => ∃ b : Nat, a < b ∧ b ≤ s.size + 1 ∧ v = .int .i64 (b : Nat) ∧ P wq) (fun v _ => s.size + 1 - (intOf v).toNat)
              case atStart => exact ⟨a + 1, by omega, by have := HA.out; have := HAB.out; omega, by go_num, hPy⟩
              case round =>
                obtain ⟨b, hb1, hb2, rfl, hPz⟩ := hrel
                clear hPy
                by_cases hbs : b ≤ s.size
                · have hbi : (b : Int) ≤ (s.size : Int) := by omega
                  have hab2 : (a : Int) ≤ (b : Int) := by omega
                  have HB2 := Lib.hid (And.intro hb1 (And.intro hbs (show b + 1 ≤ s.size + 1 by omega)))
                  have hq := HM2.out a b HA.out.1 HA.out.2 hb1 hbs
                  cases hin : M.bIn s.data.toList a b with
                  | false =>
                    have KI := Lib.hid (fun wr h => PI.out wr a b false h hin)
                    clear hq hin hb1 hb2 hbs
                    go_wp2_with (go_at_call 26; (with_reducible refine (KI.out _ hPz).mono ?_); rintro e w5 ⟨rfl, hPu⟩; clear hPz)
                    have fin : ∃ b' : Nat, a < b' ∧ b' ≤ s.size + 1 ∧ (Value.int .i64 ((b : Int) + 1)) = .int .i64 (b' : Nat) ∧ P w5 := ⟨b + 1, by have := HB2.out; omega, HB2.out.2.2, by go_num, hPu⟩
                    first
                      | exact ⟨fin, by simp [intOf]; have := HB2.out; omega⟩
                      | (refine ⟨?_, by simp [intOf]; have := HB2.out; omega⟩; (repeat apply Exists.intro); exact ⟨fin, rfl⟩)
                  | true =>
                    have KI := Lib.hid (fun wr h => PI.out wr a b true h hin)
                    obtain ⟨hq1, hq2⟩ := hq hin
                    have c1 : ¬ (a : Int) < (bg : Int) := by omega
                    have c2 : ¬ (en : Int) < (b : Int) := by omega
                    clear hq1 hq2 hin hb1 hb2 hbs hq
                    go_wp2_with (go_at_call 26; (with_reducible refine (KI.out _ hPz).mono ?_); rintro e w5 ⟨rfl, hPu⟩; clear hPz)
                    have fin : ∃ b' : Nat, a < b' ∧ b' ≤ s.size + 1 ∧ (Value.int .i64 ((b : Int) + 1)) = .int .i64 (b' : Nat) ∧ P w5 := ⟨b + 1, by have := HB2.out; omega, HB2.out.2.2, by go_num, hPu⟩
                    first
                      | exact ⟨fin, by simp [intOf]; have := HB2.out; omega⟩
                      | (refine ⟨?_, by simp [intOf]; have := HB2.out; omega⟩; (repeat apply Exists.intro); exact ⟨fin, rfl⟩)
                · have hbi : ¬ (b : Int) ≤ (s.size : Int) := by omega
                  have HPZ := Lib.hid hPz
                  clear hb1 hb2 hbs hPz
                  go_wp2
                  exact ⟨⟨a + 1, by have := HA.out; omega, by have := HA.out; omega, by go_num, HPZ.out⟩, by simp [intOf]; have := HA.out; omega⟩
            · have habi : ¬ (a : Int) ≤ (bg : Int) := by omega
              have HPY := Lib.hid hPy
              clear ha1 ha2 hab hPy
              go_wp2
              exact ⟨⟨j + 1, en, HN.out.2.1, by go_num, rfl, HN.out.2.2.1, HPY.out, Lib.hid HN.out.2.2.2⟩, by simp [intOf]; have := HN.out.1; omega⟩
        · have hjl2 : j = L.length := by omega
          have hji : ¬ (j : Int) < (L.length : Int) := by omega
          subst hjl2
          have hRR := hR.out hle
          rw [List.drop_length] at hRR
          have hn := hRR.nil
          have m2 := Mac.hit_not hn (by rw [HLEN.out]; have := HS.out; omega)
          rw [HLEN.out] at m2
          have hsz : (s.size : Int) ≤ 24 := by have := HS.out; omega
          have HM2 : Hid (∀ a b, at_ ≤ a → a ≤ s.size → a < b → b ≤ s.size → M.bIn s.data.toList a b = true → a = s.size ∧ b ≤ s.size) := Lib.hid fun a b h1 h2 h3 h4 h5 => by rw [m2 a b h1 h3 h4] at h5; cases h5
          have HN := Lib.hid (And.intro hle (And.intro (show L.length + 1 ≤ L.length + 1 by omega) (And.intro (show s.size ≤ s.size by omega) (fun h : L.length + 1 ≤ L.length => (show Rest M s.data.toList (L.drop (L.length + 1)) s.size by omega)))))
          have HAB : Hid (at_ ≤ s.size ∧ s.size ≤ s.size) := Lib.hid (by omega)
          have hPx := hPw
          clear hR hRR hn hj m2 hle hat hlt hPw
          go_wp2
          go_loopw [11] (fun v wq => ∃ a : Nat, at_ ≤ a ∧ a ≤ s.size + 1 ∧ v = .int .i64 (a : Nat) ∧ P wq) (fun v _ => s.size + 1 - (intOf v).toNat)
          case atStart => exact ⟨at_, Nat.le_refl _, by have := HAB.out; omega, rfl, hPx⟩
          case round =>
            obtain ⟨a, ha1, ha2, rfl, hPy⟩ := hrel
            clear hPx
            by_cases hab : a ≤ s.size
            · have habi : (a : Int) ≤ (s.size : Int) := by omega
              have ha24 : (a : Int) ≤ 24 := by have := HAB.out; omega
              have HA := Lib.hid (And.intro ha1 hab)
              clear ha1 ha2 hab
              generalize wr = wo at *
              go_wp2
              go_loopw [12] (fun v wq => ∃ b : Nat, a < b ∧ b ≤ s.size + 1 ∧ v = .int .i64 (b : Nat) ∧ P wq) (fun v _ => s.size + 1 - (intOf v).toNat)
              case atStart => exact ⟨a + 1, by omega, by have := HA.out; have := HAB.out; omega, by go_num, hPy⟩
              case round =>
                obtain ⟨b, hb1, hb2, rfl, hPz⟩ := hrel
                clear hPy
                by_cases hbs : b ≤ s.size
                · have hbi : (b : Int) ≤ (s.size : Int) := by omega
                  have hab2 : (a : Int) ≤ (b : Int) := by omega
                  have HB2 := Lib.hid (And.intro hb1 (And.intro hbs (show b + 1 ≤ s.size + 1 by omega)))
                  have hq := HM2.out a b HA.out.1 HA.out.2 hb1 hbs
                  cases hin : M.bIn s.data.toList a b with
                  | false =>
                    have KI := Lib.hid (fun wr h => PI.out wr a b false h hin)
                    clear hq hin hb1 hb2 hbs
                    go_wp2_with (go_at_call 26; (with_reducible refine (KI.out _ hPz).mono ?_); rintro e w5 ⟨rfl, hPu⟩; clear hPz)
                    have fin : ∃ b' : Nat, a < b' ∧ b' ≤ s.size + 1 ∧ (Value.int .i64 ((b : Int) + 1)) = .int .i64 (b' : Nat) ∧ P w5 := ⟨b + 1, by have := HB2.out; omega, HB2.out.2.2, by go_num, hPu⟩
                    first
                      | exact ⟨fin, by simp [intOf]; have := HB2.out; omega⟩
                      | (refine ⟨?_, by simp [intOf]; have := HB2.out; omega⟩; (repeat apply Exists.intro); exact ⟨fin, rfl⟩)
                  | true =>
                    have KI := Lib.hid (fun wr h => PI.out wr a b true h hin)
                    obtain ⟨hq1, hq2⟩ := hq hin
                    have c1 : ¬ (a : Int) < (s.size : Int) := by omega
                    have c2 : ¬ (s.size : Int) < (b : Int) := by omega
                    clear hq1 hq2 hin hb1 hb2 hbs hq
                    go_wp2_with (go_at_call 26; (with_reducible refine (KI.out _ hPz).mono ?_); rintro e w5 ⟨rfl, hPu⟩; clear hPz)
                    have fin : ∃ b' : Nat, a < b' ∧ b' ≤ s.size + 1 ∧ (Value.int .i64 ((b : Int) + 1)) = .int .i64 (b' : Nat) ∧ P w5 := ⟨b + 1, by have := HB2.out; omega, HB2.out.2.2, by go_num, hPu⟩
                    first
                      | exact ⟨fin, by simp [intOf]; have := HB2.out; omega⟩
                      | (refine ⟨?_, by simp [intOf]; have := HB2.out; omega⟩; (repeat apply Exists.intro); exact ⟨fin, rfl⟩)
                · have hbi : ¬ (b : Int) ≤ (s.size : Int) := by omega
                  have HPZ := Lib.hid hPz
                  clear hb1 hb2 hbs hPz
                  go_wp2
                  exact ⟨⟨a + 1, by have := HA.out; omega, by have := HA.out; omega, by go_num, HPZ.out⟩, by simp [intOf]; have := HA.out; omega⟩
            · have habi : ¬ (a : Int) ≤ (s.size : Int) := by omega
              have HPY := Lib.hid hPy
              clear ha1 ha2 hab hPy
              go_wp2
              exact ⟨⟨L.length + 1, s.size, HN.out.2.1, by go_num, rfl, HN.out.2.2.1, HPY.out, Lib.hid HN.out.2.2.2⟩, by simp [intOf]⟩
      · have hjl : ¬ (j : Int) ≤ (L.length : Int) := by omega
        have HP9 := Lib.hid hPw
        clear hR hj hle hat hPw
        go_wp2
        go_ret
        exact ⟨rfl, PE.out _ HP9.out⟩
end Go.Proofs.Ytdmajbdgjjmlkaa
