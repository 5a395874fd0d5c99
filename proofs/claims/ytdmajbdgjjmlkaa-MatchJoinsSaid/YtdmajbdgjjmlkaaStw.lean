/- Hits are found one by one: the law's walk. Conditions: the expression lies in memory, its sets' numbers are of 64 bits. -/
import Derived.Test.YtdmajbdgjjmlkaaOpn
namespace Go.Proofs.Ytdmajbdgjjmlkaa
open Go.RowKit
set_option linter.unusedVariables false
set_option linter.unusedSimpArgs false

/-- from any place up to a hit's beginning that hit is found -/
theorem Mac.hit_from (M : Mac) : ∀ (s : Bs) (i : Nat) (p : Nat × Nat) (k : Nat), M.hit s i = some p → i + k ≤ p.1 → M.hit (s.drop k) (i + k) = some p
  | s, i, p, 0, h, _ => by rw [List.drop_zero, Nat.add_zero]; exact h
  | [], i, p, k + 1, h, _ => by cases h
  | b :: s, i, p, k + 1, h, hk => by
    rw [Mac.hit] at h
    split at h
    · cases h
      dsimp only at hk
      omega
    · have := M.hit_from s (i + 1) p k h (by omega)
      rw [List.drop_succ_cons, show i + (k + 1) = i + 1 + k by omega]
      exact this
theorem Mac.hitI_from {M : Mac} {s : Bs} {a k : Nat} {p : Nat × Nat} (h : M.hitI s (a : Nat) = some p) (h1 : a ≤ k) (h2 : k ≤ p.1) : M.hitI s (k : Nat) = some p := by
  unfold Mac.hitI at h ⊢
  split at h
  · cases h
  · next hc =>
    rw [if_neg (by omega), Int.toNat_natCast]
    rw [Int.toNat_natCast] at h
    unfold Mac.hitF at h ⊢
    have := M.hit_from (s.drop a) a p (k - a) h (by omega)
    rw [List.drop_drop, show a + (k - a) = k by omega] at this
    exact this
/-- the rest of all hits, from a place on -/
def Rest (M : Mac) (s : Bs) (l : List (Nat × Nat)) (at_ : Nat) : Prop := ∃ f, l = M.hitsO s f (M.hitI s (at_ : Nat)) ∧ ∀ q, M.hitI s (at_ : Nat) = some q → s.length ≤ f + q.2
theorem Rest.nil {M : Mac} {s : Bs} {a : Nat} (h : Rest M s [] a) : M.hitI s (a : Nat) = none := by
  obtain ⟨f, h1, _⟩ := h
  cases hr : M.hitI s (a : Nat) with
  | none => rfl
  | some q => rw [hr] at h1; cases f <;> simp [Mac.hitsO] at h1
theorem Rest.cons {M : Mac} {s : Bs} {a : Nat} {x : Nat × Nat} {l : List (Nat × Nat)} (h : Rest M s (x :: l) a) : M.hitI s (a : Nat) = some x ∧ Rest M s l x.2 := by
  obtain ⟨f, h1, h2⟩ := h
  cases hr : M.hitI s (a : Nat) with
  | none => rw [hr] at h1; cases f <;> simp [Mac.hitsO] at h1
  | some q =>
    rw [hr] at h1
    have hq := h2 q hr
    have hqq := Mac.hitI_some hr
    cases f with
    | zero =>
      simp [Mac.hitsO] at h1
      obtain ⟨rfl, rfl⟩ := h1
      have hn : M.hitI s (x.2 : Nat) = none := by
        cases hm : M.hitI s (x.2 : Nat) with
        | none => rfl
        | some m => have := Mac.hitI_some hm; omega
      exact ⟨rfl, 0, by rw [hn]; rfl, fun m hm => by rw [hn] at hm; cases hm⟩
    | succ f =>
      simp [Mac.hitsO] at h1
      obtain ⟨rfl, rfl⟩ := h1
      refine ⟨rfl, f, rfl, fun m hm => ?_⟩
      have := Mac.hitI_some hm
      omega
theorem rest_first (M : Mac) (s : Bs) : Rest M s (M.hitsL s) 0 := ⟨s.length, rfl, fun q _ => by omega⟩
set_option maxRecDepth 100000 in
set_option maxHeartbeats 8000000 in
theorem steps_walk (t : Rx) (sv : Value) (s : ByteArray) (fr : Int) (w : World) (hl : LiesL (fun _ => True) w sv t.list) (hok : okR t) :
    Calls Try.prog 10 #[t.val sv, .string s, .int .i64 fr] w fun e w' => e = .returned (.bool true) ∧ Below w.heap.size w w' := by
  obtain ⟨ao, cap, rfl⟩ := hl.value
  have KN := fun (o : Obj) => (new_any (w.alloc o) t _ (hl.stay (below_new w o)) hok).mono fun e w' h => NewPost.mono h (below_new w o)
  obtain ⟨M, hM⟩ : ∃ M, M = macR t := ⟨_, rfl⟩
  unfold NewPost at KN
  rw [← hM] at KN
  obtain ⟨B, hB⟩ : ∃ B, B = w.heap.size := ⟨_, rfl⟩
  rw [← hB] at KN ⊢
  obtain ⟨L, hL⟩ : ∃ L, L = M.hitsL s.data.toList := ⟨_, rfl⟩
  have hR0 := rest_first M s.data.toList
  rw [← hL] at hR0
  have hfew : Mok M → L.length ≤ 1000 := fun _ => by
    by_cases hs : s.data.toList.length ≤ 256
    · -- each hit ends further on
      have : ∀ (l : List (Nat × Nat)) (a : Nat), Rest M s.data.toList l a → l.length ≤ s.data.toList.length - a := by
        intro l
        induction l with
        | nil => intro a _; simp
        | cons x l ih =>
          intro a h
          obtain ⟨h1, h2⟩ := h.cons
          have := Mac.hitI_some h1
          have := ih x.2 h2
          rw [List.length_cons]
          omega
      have := this L 0 hR0
      omega
    · have : M.hitI s.data.toList 0 = none := by unfold Mac.hitI; rw [if_pos (.inr (by omega))]
      rw [hL]
      unfold Mac.hitsL
      rw [this]
      cases s.data.toList.length <;> simp [Mac.hitsO]
  obtain ⟨Q, hQ⟩ : ∃ Q : Nat → World → Prop, Q = fun p w1 => (IsM B p M w1 ∧ Mok M) ∧ Below B w w1 := ⟨_, rfl⟩
  have QE : Hid (∀ p w1, Q p w1 → Below B w w1) := Lib.hid (by rw [hQ]; exact fun p w1 h => h.2)
  have QB : ∀ p w1 w2, Q p w1 → Below w1.heap.size w1 w2 → Q p w2 := by
    rw [hQ]; exact fun p w1 w2 h hb => ⟨⟨h.1.1.of_below hb, h.1.2⟩, h.2.trans (hb.mono (by have := h.2.size; omega))⟩
  have QI : ∀ p w1, Q p w1 → IsM B p M w1 ∧ Mok M := by rw [hQ]; exact fun p w1 h => h.1
  have K1 : Hid (∀ o, Calls Try.prog 11 #[t.val (.slice ao t.list.length cap)] (w.alloc o) fun e w' => (∃ n : Int, e = .returned (.tuple #[.pointer none, .int .i64 n]) ∧ (n == 0) = false ∧ Hid (Below B w w')) ∨ (∃ p, e = .returned (.tuple #[.pointer (some ⟨p, 0, none⟩), .int .i64 0]) ∧ Q p w')) := Lib.hid fun o => (KN o).mono fun e w' h => by
    obtain ⟨hb, ⟨hc, he⟩ | ⟨hc, p, he, hi⟩⟩ := h
    · exact .inl ⟨_, he, by simpa using hc, Lib.hid hb⟩
    · exact .inr ⟨p, he, by rw [hQ]; exact ⟨hi, hb⟩⟩
  have KF : Hid (∀ w1, Below B w w1 → Calls Try.prog 12 #[] w1 fun e w' => e = .returned (.bool true) ∧ Hid (Below B w w')) := Lib.hid fun w1 hb => (fixed_any w1).mono fun e w' h => ⟨h.1, Lib.hid (hb.trans (h.2.mono (by have := hb.size; omega)))⟩
  have KFQ : Hid (∀ p w1, Q p w1 → Calls Try.prog 12 #[] w1 fun e w' => e = .returned (.bool true) ∧ Q p w') := Lib.hid fun p w1 h => (fixed_any w1).mono fun e w' g => ⟨g.1, QB p w1 w' h g.2⟩
  have T1 : Hid (∀ p w1, Q p w1 → Calls Try.prog 21 #[.pointer (some ⟨p, 0, none⟩), .string s] w1 fun e w' => ∃ ao cap, e = .returned (.slice ao L.length cap) ∧ Hid (PrAt w' (.slice ao L.length cap) L) ∧ Q p w') := Lib.hid fun p w1 h => by
    have := hits_any _ p M w1 (QI p w1 h).1 (QI p w1 h).2 s
    rw [← hL] at this
    refine this.mono fun e w' g => ?_
    obtain ⟨⟨v, rfl, ho⟩, hb⟩ := g
    have hp := own_pr ho
    obtain ⟨ao, cap, rfl⟩ := own_slice' ho
    exact ⟨ao, cap, rfl, Lib.hid hp, QB p w1 w' h hb⟩
  have H1 : Hid (∀ p w1 (i : Int) a b c, Q p w1 → hitV (M.hitI s.data.toList i) = .tuple #[.int .i64 (a : Int), .int .i64 (b : Int), .bool c] → Calls Try.prog 18 #[.pointer (some ⟨p, 0, none⟩), .string s, .int .i64 i] w1 fun e w' => e = .returned (.tuple #[.int .i64 a, .int .i64 b, .bool c]) ∧ Q p w' ∧ Hid (Below w1.heap.size w1 w')) := Lib.hid fun p w1 i a b c h he => by
    have := hit_any _ p M w1 (QI p w1 h).1 (QI p w1 h).2 s i
    rw [he] at this
    exact this.mono fun e w' g => ⟨g.1, QB p w1 w' h g.2, Lib.hid g.2⟩
  have HR0 := Lib.hid hR0
  have HFEW : Hid (∀ p w1, Q p w1 → L.length ≤ 1000) := Lib.hid fun p w1 h => hfew (QI p w1 h).2
  have KZ := K1.out
  obtain ⟨k, mn, mx, s0, s1, s2, s3, ls⟩ := t
  unfold Rx.val Rx.cells cellsX at K1 ⊢
  dsimp only [Rx.list] at K1 ⊢
  clear hl hok KN hM hB hL hR0 hfew hQ QB QI KZ
  go_enter Try.func10, Try.ntmps10
  go_wp2_with (first
    | (go_at_call 11; (with_reducible refine (K1.out _).mono ?_); rintro e w1 (⟨n, rfl, hn, hb1⟩ | ⟨p, rfl, I1⟩)))
  · have hn2 : (n != 0) = true := by rw [bne, hn]; rfl
    go_wp2_with (go_at_call 12; (with_reducible refine (KF.out _ hb1.out).mono ?_); rintro e w2 ⟨rfl, hb2⟩)
    go_ret
    exact ⟨rfl, hb2.out⟩
  · go_wp2_with (first
      | (go_at_call 12; (with_reducible refine (KFQ.out _ _ I1).mono ?_); rintro e w2 ⟨rfl, I2⟩; clear I1)
      | (go_at_call 21; (with_reducible refine (T1.out _ _ I2).mono ?_); rintro e w3 ⟨bo, caq, rfl, HPR, I3⟩; clear I2))
    have hfew := HFEW.out p w3 I3
    have hLi : (L.length : Int) ≤ 1000 := by omega
    obtain ⟨P, hP⟩ : ∃ P : World → Prop, P = fun wr => Q p wr ∧ Below w3.heap.size w3 wr := ⟨_, rfl⟩
    have P0 : Hid (P w3) := Lib.hid (by rw [hP]; exact ⟨I3, Below.refl _ _⟩)
    have PC : Hid (∀ wr j (x : Nat × Nat), P wr → L[j]? = some x → ∃ a, bo = some a ∧ wr.cell? (a.add (j * 2)) = some (.int .i64 (x.1 : Nat)) ∧ wr.cell? ⟨(a.add (j * 2)).block, (a.add (j * 2)).off + 1, none⟩ = some (.int .i64 (x.2 : Nat))) := Lib.hid (by
      rw [hP]
      intro wr j x h hx
      obtain ⟨ao', cap', hv, hc⟩ := HPR.out.below h.2
      obtain ⟨rfl, -, -⟩ := Value.slice.inj hv
      exact hc j x hx)
    have PH : Hid (∀ wr (i : Int) a b c, P wr → hitV (M.hitI s.data.toList i) = .tuple #[.int .i64 (a : Int), .int .i64 (b : Int), .bool c] → Calls Try.prog 18 #[.pointer (some ⟨p, 0, none⟩), .string s, .int .i64 i] wr fun e w' => e = .returned (.tuple #[.int .i64 a, .int .i64 b, .bool c]) ∧ P w') := Lib.hid (by
      rw [hP]
      intro wr i a b c h he
      exact (H1.out p wr i a b c h.1 he).mono fun e w' g => ⟨g.1, g.2.1, h.2.trans (g.2.2.out.mono h.2.size)⟩)
    have PE : Hid (∀ wr, P wr → Below B w wr) := Lib.hid (by rw [hP]; exact fun wr h => QE.out p wr h.1)
    clear hP hfew I3 KF KFQ T1 H1 HPR K1
    go_loopw [10, 11, 15, 16, 17] (fun v i u15 u16 u17 wr => ∃ j a : Nat, j ≤ L.length ∧ i = .int .i64 (j : Nat) ∧ v = .int .i64 (a : Nat) ∧ P wr ∧ Hid (Rest M s.data.toList (L.drop j) a)) (fun _ i _ _ _ _ => L.length - (intOf i).toNat)
    case atStart => exact ⟨0, 0, Nat.zero_le _, rfl, rfl, P0.out, Lib.hid (by rw [List.drop_zero]; exact HR0.out)⟩
    case round =>
      obtain ⟨j, a, hj, rfl, rfl, hPw, hR⟩ := hrel
      by_cases hlt : j < L.length
      · have hji : (j : Int) < (L.length : Int) := by omega
        have hxj : L[j]? = some L[j] := List.getElem?_eq_getElem hlt
        have hd := List.drop_eq_getElem_cons hlt
        generalize L[j] = x at *
        have hRR := hR.out
        rw [hd] at hRR
        obtain ⟨r1, r2⟩ := hRR.cons
        have hb := Mac.hitI_some r1
        obtain ⟨x1, x2⟩ := x
        dsimp only at r1 r2 hb
        have KH := Lib.hid (PH.out wr (a : Nat) x1 x2 true hPw (by rw [r1]; rfl))
        have b1 : ¬ (x1 : Int) < (a : Int) := by omega
        have b2 : ¬ (x2 : Int) ≤ (x1 : Int) := by omega
        have HX := Lib.hid hxj
        have HN := Lib.hid (And.intro hlt (And.intro r1 r2))
        have hx2 : (x2 : Int) ≤ 256 := by omega
        by_cases hfr : (a : Int) ≤ fr ∧ fr ≤ (x1 : Int)
        · obtain ⟨f1, f2⟩ := hfr
          obtain ⟨c, rfl⟩ := Int.eq_ofNat_of_zero_le (show 0 ≤ fr by omega)
          have hc := Mac.hitI_from r1 (show a ≤ c by omega) (show c ≤ x1 by omega)
          have KG := Lib.hid (fun wr h => PH.out wr (c : Nat) x1 x2 true h (by rw [hc]; rfl))
          clear hR hRR r1 r2 hb hd hxj hlt hj hc
          go_wp2_with (first
            | (go_at_call 18; (with_reducible refine KH.out.mono ?_); rintro e w4 ⟨rfl, I4⟩; obtain ⟨d, rfl, e1, e2⟩ := PC.out _ _ _ I4 HX.out; dsimp only at e1 e2; clear hPw)
            | (go_at_call 18; (with_reducible refine (KG.out _ I4).mono ?_); rintro e w5 ⟨rfl, I5⟩; clear I4 e1 e2))
          exact ⟨⟨j + 1, x2, HN.out.1, by go_num, rfl, I5, Lib.hid HN.out.2.2⟩, by simp [intOf]; have := HN.out.1; omega⟩
        · have hfr2 : (decide ((a : Int) ≤ fr) && decide (fr ≤ (x1 : Int))) = false := by
            cases h9 : (decide ((a : Int) ≤ fr) && decide (fr ≤ (x1 : Int)))
            · rfl
            · simp at h9; exact absurd h9 hfr
          clear hR hRR r1 r2 hb hd hxj hlt hj
          by_cases f1 : (a : Int) ≤ fr
          · have f2 : ¬ fr ≤ (x1 : Int) := fun h => hfr ⟨f1, h⟩
            clear hfr hfr2
            go_wp2_with (go_at_call 18; (with_reducible refine KH.out.mono ?_); rintro e w4 ⟨rfl, I4⟩; obtain ⟨d, rfl, e1, e2⟩ := PC.out _ _ _ I4 HX.out; dsimp only at e1 e2; clear hPw)
            exact ⟨⟨j + 1, x2, HN.out.1, by go_num, rfl, I4, Lib.hid HN.out.2.2⟩, by simp [intOf]; have := HN.out.1; omega⟩
          · clear hfr hfr2
            go_wp2_with (go_at_call 18; (with_reducible refine KH.out.mono ?_); rintro e w4 ⟨rfl, I4⟩; obtain ⟨d, rfl, e1, e2⟩ := PC.out _ _ _ I4 HX.out; dsimp only at e1 e2; clear hPw)
            exact ⟨⟨j + 1, x2, HN.out.1, by go_num, rfl, I4, Lib.hid HN.out.2.2⟩, by simp [intOf]; have := HN.out.1; omega⟩
      · have hjl : j = L.length := by omega
        subst hjl
        have hRR := hR.out
        rw [List.drop_length] at hRR
        have hn := hRR.nil
        have KH := Lib.hid (PH.out wr (a : Nat) 0 0 false hPw (by rw [hn]; rfl))
        clear hR hRR hn hlt hj
        go_wp2_with (go_at_call 18; (with_reducible refine KH.out.mono ?_); rintro e w4 ⟨rfl, I4⟩)
        go_ret
        exact ⟨rfl, PE.out _ I4⟩
end Go.Proofs.Ytdmajbdgjjmlkaa
