/- An alternative: rows of pieces, up to what ends them: what the call returns, how a fault goes out. Conditions: the reader lies in memory; the pattern is no longer than the document allows. -/
import Derived.Test.YtdmajbdgjjmlkaaTwo
import Derived.Test.YtdmajbdgjjmlkaaPrl
namespace Go.Proofs.Ytdmajbdgjjmlkaa
open Go.RowKit
set_option linter.unusedVariables false

theorem wp_scope_loop2 {P : Program} {a : Act} {w : World} {Q : Exit → Act → World → Prop} {c r1 r0 : Code} (l m : Nat) (J : Act → World → Prop) (μ : Act → World → Nat) (K : Act → World → Prop)
    (hf : findLabel c l = some (.seq .skip r1)) (hm : findLabel c m = some (.seq .skip r0))
    (pass : ∀ a w, J a w → r1.wp P (Exit.jump2 l (fun a' w' => J a' w' ∧ μ a' w' < μ a w) m K Q) a w)
    (last : ∀ a w, K a w → r0.wp P (Exit.jump0 Q) a w)
    (first : (∀ a w, J a w → r1.wp P (Exit.jump2 l J m K Q) a w) → c.wp P (Exit.jump2 l J m K Q) a w) : (Code.scope c).wp P Q a w :=
  wp_scope_two l m J μ K hf hm (first fun a w hJ => wp_mono (pass a w hJ) fun e a' w' hq => by
    cases e with
    | goto l' =>
      rcases hq with ⟨h1, h2, _⟩ | h
      · exact .inl ⟨h1, h2⟩
      · exact .inr h
    | normal => exact hq
    | exit id => exact hq
    | ret => exact hq
    | panic ch => exact hq
    | outgrown => exact hq) (fun a w hJ => wp_seq (wp_skip (pass a w hJ))) (fun a w hK => wp_seq (wp_skip (last a w hK)))
theorem jump0_ret {Q : Exit → Act → World → Prop} {a : Act} {w : World} (h : Q .ret a w) : Exit.jump0 Q .ret a w := h
def JA (b R : Nat) (w : World) (T : Option (Rx × Bs)) (L : Nat) (a : Act) (wr : World) : Prop := ∃ vr vw prs pws l f, Two b R w wr l vr vw prs pws ∧ altP f (fsts prs) (fsts pws) l = T ∧ l.length < f ∧ prs.length + pws.length + l.length ≤ L ∧ ∃ (u1 u5 u6 u7 u8 u9 u10 u11 u12 u13 u14 u15 u16 u17 u18 u19 u20 u21 u22 u23 u24 u25 u26 u27 u28 u29 u30 u31 u32 u33 u34 u35 : Value), a = ⟨#[.pointer (some ⟨b, 0, none⟩), u1, .pointer (some ⟨R, 0, none⟩), vr, vw, u5, u6, u7, u8, u9, u10, u11, u12, u13, u14, u15, u16, u17, u18, u19, u20, u21, u22, u23, u24, u25, u26, u27, u28, u29, u30, u31, u32, u33, u34, u35], []⟩
def KA (b R : Nat) (w : World) (T : Option (Rx × Bs)) (L : Nat) (a : Act) (wr : World) : Prop := ∃ vr vw prs pws l, Two b R w wr l vr vw prs pws ∧ some (togR 2 (fsts prs ++ [togR 1 (fsts pws)]), l) = T ∧ prs.length + pws.length ≤ L ∧ ∃ (u1 u5 u6 u7 u8 u9 u10 u11 u12 u13 u14 u15 u16 u17 u18 u19 u20 u21 u22 u23 u24 u25 u26 u27 u28 u29 u30 u31 u32 u33 u34 u35 : Value), a = ⟨#[.pointer (some ⟨b, 0, none⟩), u1, .pointer (some ⟨R, 0, none⟩), vr, vw, u5, u6, u7, u8, u9, u10, u11, u12, u13, u14, u15, u16, u17, u18, u19, u20, u21, u22, u23, u24, u25, u26, u27, u28, u29, u30, u31, u32, u33, u34, u35], []⟩
/-- what a row or an alternative of several is, in cells -/
theorem tog_call {ok : Nat → Prop} {kind : Int} {l : List Rx} {t : Rx} (ht : togR kind l = t) {k mn mx x0 x1 x2 x3 : Int} {ls : List Rx} (he : t = .mk k mn mx x0 x1 x2 x3 ls) (v : Value) (w1 : World) (hl : LiesL ok w1 v l) :
    Calls Try.prog 62 #[.int .i64 kind, v] w1 fun e w' => Below w1.heap.size w1 w' ∧ ∃ bo cq, e = .returned (.agg #[.int .i64 k, .int .i64 mn, .int .i64 mx, .int .u64 x0, .int .u64 x1, .int .u64 x2, .int .u64 x3, .slice bo ls.length cq]) ∧ LiesL ok w' (.slice bo ls.length cq) ls :=
  (together_ok kind l v w1 hl).mono fun e w' hp => by
    subst ht
    obtain ⟨hb, v', he', hl'⟩ := hp
    rw [he] at he' hl'
    obtain ⟨bo, cq, hv⟩ := hl'.value
    have hv2 : v' = .slice bo ls.length cq := hv
    subst hv2
    exact ⟨hb, bo, cq, he', hl'⟩
set_option maxRecDepth 20000 in
set_option maxHeartbeats 8000000 in
theorem alt_core (b : Nat) (l0 : Bs) (f0 : Nat) (w : World) (h : St w b l0) (hf0 : l0.length < f0) (hL : l0.length ≤ 128)
    (IH : ∀ l1 f1 w1, l1.length < l0.length → l1.length < f1 → St w1 b l1 → Calls Try.prog 54 #[.pointer (some ⟨b, 0, none⟩)] w1 (PostR b w1 (altP f1 [] [] l1))) : Calls Try.prog 54 #[.pointer (some ⟨b, 0, none⟩)] w (PostR b w (altP f0 [] [] l0)) := by
  obtain ⟨T, hT⟩ : ∃ T, altP f0 [] [] l0 = T := ⟨_, rfl⟩
  rw [hT]
  obtain ⟨R, hR⟩ : ∃ R, R = w.heap.size := ⟨_, rfl⟩
  have t0 := At.first h
  rw [← hR] at t0
  have hzz : w.heap.size = R := hR.symm
  have J0 : Hid (∀ (u1 u5 u6 u7 u8 u9 u10 u11 u12 u13 u14 u15 u16 u17 u18 u19 u20 u21 u22 u23 u24 u25 u26 u27 u28 u29 u30 u31 u32 u33 u34 u35 : Value), JA b R w T l0.length ⟨#[.pointer (some ⟨b, 0, none⟩), u1, .pointer (some ⟨R, 0, none⟩), .slice none 0 0, .slice none 0 0, u5, u6, u7, u8, u9, u10, u11, u12, u13, u14, u15, u16, u17, u18, u19, u20, u21, u22, u23, u24, u25, u26, u27, u28, u29, u30, u31, u32, u33, u34, u35], []⟩ (w.alloc (.cells zero8 26))) := fun u1 u5 u6 u7 u8 u9 u10 u11 u12 u13 u14 u15 u16 u17 u18 u19 u20 u21 u22 u23 u24 u25 u26 u27 u28 u29 u30 u31 u32 u33 u34 u35 => ⟨_, _, [], [], l0, f0, Two.first t0, hT, hf0, by simp, u1, u5, u6, u7, u8, u9, u10, u11, u12, u13, u14, u15, u16, u17, u18, u19, u20, u21, u22, u23, u24, u25, u26, u27, u28, u29, u30, u31, u32, u33, u34, u35, rfl⟩
  unfold zero8 at J0
  clear h t0 hR hT hf0
  go_enter Try.func54, Try.ntmps54
  go_wp2
  refine wp_scope_loop2 1 0 (JA b R w T l0.length) (fun _ w' => left b w') (KA b R w T l0.length) rfl rfl ?_ ?_ ?_
  · clear J0
    rintro a wr ⟨vr, vw, prs, pws, l, f, two, hT, hf, hc, u1, u5, u6, u7, u8, u9, u10, u11, u12, u13, u14, u15, u16, u17, u18, u19, u20, u21, u22, u23, u24, u25, u26, u27, u28, u29, u30, u31, u32, u33, u34, u35, rfl⟩
    have q0 := two.at1.st
    have hc0 := q0.cell
    cases f with
    | zero => omega
    | succ f =>
    cases l with
    | nil =>
      rw [altP_end (.inl rfl)] at hT
      have K0 : Hid (KA b R w T l0.length = KA b R w T l0.length) := rfl
      have e : str [] = ⟨#[]⟩ := rfl
      rw [e] at hc0
      have TW := Lib.hid two
      have HT := Lib.hid hT
      clear e q0 hT two IH
      go_wp2
      go_step3
      exact .inr ⟨rfl, vr, vw, prs, pws, [], TW.out, HT.out, by simp at hc; omega, _, _, _, _, _, _, _, _, _, _, _, _, _, _, _, _, _, _, _, _, _, _, _, _, _, _, _, _, _, _, _, _, rfl⟩
    | cons c l =>
      obtain ⟨s, hs, h1, h2, h3, h4, h5⟩ := str_cons c l
      rw [hs] at hc0
      have e0 := h2 h1
      by_cases h41 : c = 41
      · subst h41
        rw [altP_end (.inr rfl)] at hT
        have d0 : (((s[0].toNat : Nat) : Int) == 41) = true := by rw [e0]; rfl
        have TW := Lib.hid two
        have HT := Lib.hid hT
        clear hs h2 h3 e0 q0 hT two IH
        go_wp2
        go_step3
        exact .inr ⟨rfl, vr, vw, prs, pws, 41 :: l, TW.out, HT.out, by simp at hc; omega, _, _, _, _, _, _, _, _, _, _, _, _, _, _, _, _, _, _, _, _, _, _, _, _, _, _, _, _, _, _, _, _, rfl⟩
      · have n41 : isNext 41 (c :: l) = false := by simp [isNext, h41]
        have d0 : (((s[0].toNat : Nat) : Int) == 41) = false := by
          rw [e0]; simp
          exact fun q => h41 (UInt8.toNat_inj.1 (by have : (41 : UInt8).toNat = 41 := rfl; omega))
        have LS := Lib.hid (left_st two.at1.st)
        by_cases h124 : c = 124
        · subst h124
          rw [altP_bar rfl] at hT
          have TK : Hid (∀ w1, St w1 b (124 :: l) → Calls Try.prog 61 #[.pointer (some ⟨b, 0, none⟩), .int .u8 124] w1 fun e w' => e = .returned (.bool true) ∧ Step b w1 w' l) := fun w1 q => takes_yes b 124 l w1 q
          obtain ⟨t, ht⟩ : ∃ t, togR 1 (fsts pws) = t := ⟨_, rfl⟩
          rw [ht] at hT
          obtain ⟨k, mn, mx, x0, x1, x2, x3, ls, he⟩ : ∃ k mn mx x0 x1 x2 x3 ls, t = .mk k mn mx x0 x1 x2 x3 ls := by cases t; exact ⟨_, _, _, _, _, _, _, _, rfl⟩
          have TG := Lib.hid (fun v w1 hl => tog_call (ok := okT R vr (.slice none 0 0)) ht he v w1 hl)
          have TW := Lib.hid two
          have few1 : pws.length ≤ 1000 := by simp at hc; omega
          have few2 : prs.length ≤ 1000 := by simp at hc; omega
          have HT := Lib.hid hT
          have HF := Lib.hid hf
          have HC := Lib.hid hc
          clear hs h2 h3 e0 hT two IH n41 ht hf hc
          go_wp2_with (first
            | (go_at_call 61; (with_reducible refine (TK.out _ q0).mono ?_); rintro e w1 ⟨rfl, s1⟩; have tw1 := TW.out.step s1; have rw1 := tw1.roww few1)
            | (go_at_call 62; (with_reducible refine (TG.out _ _ rw1).mono ?_); rintro e w2 ⟨g2, bo, cq, rfl, hl2⟩; have tw2 := tw1.give.below g2; obtain ⟨ao, cap, w3, hr3, tw3⟩ := tw2.pushr (.mk k mn mx x0 x1 x2 x3 ls) (.slice bo ls.length cq) 24 hl2 few2)
            | (at_builtin; refine list_append_run rfl _ _ 24 rfl _ _ _ w3 rfl rfl hr3 ?_))
          go_step3
          refine .inl ⟨rfl, ⟨_, _, _, _, l, f, tw3, ?_, ?_, ?_, _, _, _, _, _, _, _, _, _, _, _, _, _, _, _, _, _, _, _, _, _, _, _, _, _, _, _, _, _, _, _, _, rfl⟩, ?_⟩
          · rw [fsts_app, ← he]; exact HT.out
          · have := HF.out; simp at this; omega
          · have := HC.out; simp at this; simp; omega
          · show left b w3 < left b wr
            rw [left_st tw3.at1.st, LS.out]; simp
        · have n124 : isNext 124 (c :: l) = false := by simp [isNext, h124]
          rw [altP_piece rfl n41 n124] at hT
          have TK : Hid (∀ w1, St w1 b (c :: l) → Calls Try.prog 61 #[.pointer (some ⟨b, 0, none⟩), .int .u8 124] w1 fun e w' => e = .returned (.bool false) ∧ Step b w1 w' (c :: l)) := fun w1 q => takes_no b 124 (c :: l) w1 q n124
          have PC := fun w1 (q : St w1 b (c :: l)) => piece_any (altP f [] []) b (c :: l) w1 q (fun _ w2 q2 => IH l f w2 (by simp at hc; omega) (by simp at hf; omega) q2)
          have TW := Lib.hid two
          have few1 : pws.length ≤ 1000 := by simp at hc; omega
          cases hp : pieceP (altP f [] []) (c :: l) with
          | none =>
            rw [hp] at PC hT
            unfold PostR at PC
            have P2 := Lib.hid PC
            dsimp only at hT
            subst hT
            have GR := Lib.hid two.at1.grown
            clear hs h2 h3 e0 two IH n41 n124 hf hc PC hp
            go_wp2_with (first
              | (go_at_call 61; (with_reducible refine (TK.out _ q0).mono ?_); rintro e w1 ⟨rfl, s1⟩; have q1 := s1.st)
              | (go_at_call 63; (with_reducible refine (P2.out _ q1).mono ?_); rintro e w2 ⟨rfl, g2⟩))
            exact ⟨rfl, rfl, grown_trans (grown_trans GR.out s1.grown) g2⟩
          | some pr =>
            obtain ⟨t, l1⟩ := pr
            rw [hp] at PC hT
            have hlt := piece_lt f hp
            obtain ⟨k, mn, mx, x0, x1, x2, x3, ls⟩ := t
            have P2 : Hid (∀ w1, St w1 b (c :: l) → Calls Try.prog 63 #[.pointer (some ⟨b, 0, none⟩)] w1 fun e w' => Step b w1 w' l1 ∧ ∃ bo cq, e = .returned (.agg #[.int .i64 k, .int .i64 mn, .int .i64 mx, .int .u64 x0, .int .u64 x1, .int .u64 x2, .int .u64 x3, .slice bo ls.length cq]) ∧ LiesL (w1.heap.size ≤ ·) w' (.slice bo ls.length cq) ls) := fun w1 q => (PC w1 q).mono fun e w' hp => by
              obtain ⟨hs, v, he, hl⟩ := hp
              obtain ⟨bo, cq, hv⟩ := hl.value
              have hv' : v = .slice bo ls.length cq := hv
              subst hv'
              exact ⟨hs, bo, cq, he, hl⟩
            have HT := Lib.hid hT
            have HF := Lib.hid hf
            have HC := Lib.hid hc
            have HLT := Lib.hid hlt
            clear hs h2 h3 e0 two IH n41 n124 hf hc PC hp hT hlt
            go_wp2_with (first
              | (go_at_call 61; (with_reducible refine (TK.out _ q0).mono ?_); rintro e w1 ⟨rfl, s1⟩; have tw1 := TW.out.step s1; have q1 := s1.st)
              | (go_at_call 63; (with_reducible refine (P2.out _ q1).mono ?_); rintro e w2 ⟨s2, bo, cq, rfl, hl2⟩; have tw2 := tw1.step s2; obtain ⟨ao, cap, w3, hr3, tw3⟩ := tw2.pushw (.mk k mn mx x0 x1 x2 x3 ls) (.slice bo ls.length cq) 24 (tw1.fresh hl2) few1)
              | (at_builtin; refine list_append_run rfl _ _ 24 rfl _ _ _ w3 rfl rfl hr3 ?_))
            go_step3
            refine .inl ⟨rfl, ⟨_, _, _, _, l1, f, tw3, ?_, ?_, ?_, _, _, _, _, _, _, _, _, _, _, _, _, _, _, _, _, _, _, _, _, _, _, _, _, _, _, _, _, _, _, _, _, rfl⟩, ?_⟩
            · rw [fsts_app]; exact HT.out
            · have := HF.out; have := HLT.out; simp at *; omega
            · have := HC.out; have := HLT.out; simp at *; omega
            · show left b w3 < left b wr
              rw [left_st tw3.at1.st, LS.out]; exact HLT.out
  · clear J0 IH hzz
    rintro a wr ⟨vr, vw, prs, pws, l, two, hT, hc, u1, u5, u6, u7, u8, u9, u10, u11, u12, u13, u14, u15, u16, u17, u18, u19, u20, u21, u22, u23, u24, u25, u26, u27, u28, u29, u30, u31, u32, u33, u34, u35, rfl⟩
    subst hT
    obtain ⟨t, ht⟩ : ∃ t, togR 1 (fsts pws) = t := ⟨_, rfl⟩
    obtain ⟨k, mn, mx, x0, x1, x2, x3, ls, he⟩ : ∃ k mn mx x0 x1 x2 x3 ls, t = .mk k mn mx x0 x1 x2 x3 ls := by cases t; exact ⟨_, _, _, _, _, _, _, _, rfl⟩
    have TG := Lib.hid (fun v w1 hl => tog_call (ok := okT R vr (.slice none 0 0)) ht he v w1 hl)
    rw [ht]
    obtain ⟨t2, ht2⟩ : ∃ t2, togR 2 (fsts prs ++ [t]) = t2 := ⟨_, rfl⟩
    obtain ⟨k2, mn2, mx2, y0, y1, y2, y3, ls2, he2⟩ : ∃ k mn mx x0 x1 x2 x3 ls, t2 = .mk k mn mx x0 x1 x2 x3 ls := by cases t2; exact ⟨_, _, _, _, _, _, _, _, rfl⟩
    have TG2 := Lib.hid (fun v w1 hl => tog_call (ok := (R + 1 ≤ ·)) ht2 he2 v w1 hl)
    rw [ht2, he2]
    have few1 : pws.length ≤ 1000 := by omega
    have few2 : prs.length ≤ 1000 := by omega
    have rw1 := two.roww few1
    unfold PostR
    have HE : Hid (∀ v, fsts (prs ++ [(Rx.mk k mn mx x0 x1 x2 x3 ls, v)]) = fsts prs ++ [t]) := fun v => by rw [fsts_app, he]
    have TW := Lib.hid two
    clear ht ht2 he he2 two
    go_wp2_with (first
      | (go_at_call 62; (with_reducible refine (TG.out _ _ rw1).mono ?_); rintro e w2 ⟨g2, bo, cq, rfl, hl2⟩; have tw2 := TW.out.give.below g2; obtain ⟨ao, cap, w3, hr3, tw3⟩ := tw2.pushr (.mk k mn mx x0 x1 x2 x3 ls) (.slice bo ls.length cq) 24 hl2 few2; have rr3 := tw3.rowr (by simp; omega); rw [HE.out] at rr3)
      | (at_builtin; refine list_append_run rfl _ _ 24 rfl _ _ _ w3 rfl rfl hr3 ?_)
      | (go_at_call 62; (with_reducible refine (TG2.out _ _ rr3).mono ?_); rintro e w4 ⟨g4, do4, dq4, rfl, hl4⟩; have tz := tw3.at1.below g4; have r0 := tz.r0; have r1 := tz.r1; have r2 := tz.r2; have r3 := tz.r3; have r4 := tz.r4; have r5 := tz.r5; have r6 := tz.r6; have r7 := tz.r7; have rg := tz.g))
    refine jump0_ret ?_
    exact bodyPost_ret (v := .agg #[.int .i64 k2, .int .i64 mn2, .int .i64 mx2, .int .u64 y0, .int .u64 y1, .int .u64 y2, .int .u64 y3, .slice do4 ls2.length dq4]) (by simp [results, Try.results54, go_sem, r0, r1, r2, r3, r4, r5, r6, r7]) rfl ⟨tz.fin, _, rfl, tz.lies hl4 (Nat.lt_succ_self _) (Nat.le_refl _) (fun _ _ _ => rfl)⟩
  · intro again
    have AG := Lib.hid again
    clear again IH
    go_wp2
    go_step3
    rename_i hK
    refine hK _ _ ?_
    refine AG.out _ _ ?_
    exact J0.out _ _ _ _ _ _ _ _ _ _ _ _ _ _ _ _ _ _ _ _ _ _ _ _ _ _ _ _ _ _ _ _
theorem alt_any (b : Nat) : ∀ (n : Nat) (l : Bs) (f : Nat) (w : World), l.length ≤ n → St w b l → l.length < f → l.length ≤ 128 → Calls Try.prog 54 #[.pointer (some ⟨b, 0, none⟩)] w (PostR b w (altP f [] [] l))
  | n, l, f, w, hn, h, hf, hL => alt_core b l f w h hf hL (fun l1 f1 w1 h1 hf1 q => by
    cases n with
    | zero => omega
    | succ n => exact alt_any b n l1 f1 w1 (by omega) q hf1 (by omega))
end Go.Proofs.Ytdmajbdgjjmlkaa
