/- How many ticks are whose: what the call returns. No conditions. -/
import Derived.Test.YtgbmddjpaibcfaaAt
import Derived.Test.YtgbmddjpaibcfaaRnd
namespace Go.Proofs.Ytgbmddjpaibcfaa
open Go.RowKit Go.Maps Go.Shelf
set_option linter.unusedVariables false
set_option linter.unusedSimpArgs false
attribute [local go_sem] Oper.semAt_some

theorem KeepsFrom.of_below {W W' : World} (B : Nat) (hb : Below W.heap.size W W') : KeepsFrom B W W' := (show KeepsOthers W W' from ⟨hb.size, fun k o h ho => (hb.block k (block_lt h)).trans h⟩).from B
/-- what window i adds -/
def ctb (ws : List Wn) (kd ix : Int) (F T : Nat) (i : Nat) : Int :=
  if isB (ws.getD i w0).1 (ws.getD i w0).2.1 kd ix = true then (ahd (bnd (tks ws) i) ((tks ws).getD i 0) (lenN ws) T : Nat) - (ahd (bnd (tks ws) i) ((tks ws).getD i 0) (lenN ws) F : Nat) else 0
def tkN (ws : List Wn) (kd ix : Int) (F T : Nat) : Int := ((List.range ws.length).map (ctb ws kd ix F T)).sum
def acc (ws : List Wn) (kd ix : Int) (F T : Nat) (pre : List (Ix ws)) : Int := (pre.map fun x => ctb ws kd ix F T x.1).sum
theorem acc_snoc (ws : List Wn) (kd ix : Int) (F T : Nat) (pre : List (Ix ws)) (x : Ix ws) : acc ws kd ix F T (pre ++ [x]) = acc ws kd ix F T pre + ctb ws kd ix F T x.1 := by simp [acc]
theorem acc_all {ws : List Wn} {kd ix : Int} {F T : Nat} {ys : List (Ix ws)} (h : ys.map (·.1) = List.range ws.length) : acc ws kd ix F T ys = tkN ws kd ix F T := by
  unfold acc tkN
  rw [← h, List.map_map]; rfl
theorem ahd_le {st t L k : Nat} (ht : t ≤ 255) (hk : k ≤ 1099511627776) : ahd st t L k ≤ 281474976710656 := by
  unfold ahd
  have h1 : k / L * t ≤ 1099511627776 * 255 := Nat.mul_le_mul (Nat.le_trans (Nat.div_le_self _ _) hk) ht
  omega
theorem ctb_le {ws : List Wn} (hok : okL ws) (kd ix : Int) {F T : Nat} (hF : F ≤ 1099511627776) (hT : T ≤ 1099511627776) (i : Nat) : -281474976710656 ≤ ctb ws kd ix F T i ∧ ctb ws kd ix F T i ≤ 281474976710656 := by
  have ht : (tks ws).getD i 0 ≤ 255 := by
    by_cases h : i < (tks ws).length
    · rw [List.getD_eq_getElem?_getD, List.getElem?_eq_getElem h]; exact (tks_le hok _ (List.getElem_mem h)).2
    · rw [List.getD_eq_getElem?_getD, List.getElem?_eq_none (by omega)]; exact Nat.zero_le _
  have h1 := ahd_le (st := bnd (tks ws) i) (L := lenN ws) ht hF
  have h2 := ahd_le (st := bnd (tks ws) i) (L := lenN ws) ht hT
  unfold ctb
  split <;> omega
theorem acc_le {ws : List Wn} (hok : okL ws) (kd ix : Int) {F T : Nat} (hF : F ≤ 1099511627776) (hT : T ≤ 1099511627776) : ∀ pre : List (Ix ws), -(281474976710656 * (pre.length : Int)) ≤ acc ws kd ix F T pre ∧ acc ws kd ix F T pre ≤ 281474976710656 * (pre.length : Int)
  | [] => by simp [acc]
  | x :: pre => by
    have ih := acc_le hok kd ix hF hT pre
    have h := ctb_le hok kd ix hF hT x.1
    have e : acc ws kd ix F T (x :: pre) = ctb ws kd ix F T x.1 + acc ws kd ix F T pre := by simp [acc]
    rw [e, List.length_cons]
    omega
def tickV (ws : List Wn) (kd ix F T : Int) : Int × Int :=
  if okL ws then (if isT F ∧ isT T ∧ F ≤ T then (tkN ws kd ix F.toNat T.toNat, 0) else (0, 1)) else (0, 130)
set_option maxRecDepth 100000 in
set_option maxHeartbeats 4000000 in
theorem tic_yes (w : World) (G : Nat → Prop) (v : Value) (ws : List Wn) (ht : WinV G w v ws) (hok : okL ws) (kd ix : Int) (F T : Nat) (hT40 : T ≤ 1099511627776) (hFT : F ≤ T) :
    Calls Try.prog 14 #[v, .int .i64 kd, .int .i64 ix, .int .i64 (F : Int), .int .i64 (T : Int)] w fun e w' => e = .returned (.tuple #[.int .i64 (tkN ws kd ix F T), .int .i64 0]) ∧ Below w.heap.size w w' := by
  obtain ⟨q, n, cap0, rfl⟩ : ∃ q n cap, v = .slice q n cap := by obtain ⟨q, cap, e, _⟩ := ht; exact ⟨_, _, _, e⟩
  have hL := lenN_ok hok
  obtain ⟨L, hLe⟩ : ∃ L, L = lenN ws := ⟨_, rfl⟩
  rw [← hLe] at hL
  obtain ⟨w1, hw1⟩ : ∃ w1, w1 = (((w.alloc (.cells #[.int .i64 kd] 3)).alloc (.cells #[.int .i64 ix] 3)).alloc (.cells #[.int .i64 (F : Int)] 3)).alloc (.cells #[.int .i64 (T : Int)] 3) := ⟨_, rfl⟩
  have hb1 : Below w.heap.size w w1 := by rw [hw1]; exact ((((Below.refl _ w).alloc (Nat.le_refl _) _).alloc (by simp) _).alloc (by simp; omega) _).alloc (by simp; omega) _
  have k := len_any w1 G _ ws (ht.below hb1)
  have e1 : chkE ws = 0 := if_pos hok
  have e2 : lenV ws = (L : Nat) := by rw [hLe]; exact if_pos hok
  rw [e1, e2, hw1] at k
  have kf : ∀ W, Calls Try.prog 36 #[.int .i64 (F : Int)] W fun e w' => e = .returned (.bool true) ∧ W = w' := fun W => by
    have := tick_any W (F : Int)
    rw [decide_eq_true (show isT (F : Int) from ⟨by omega, by omega⟩)] at this
    exact this
  have kt : ∀ W, Calls Try.prog 36 #[.int .i64 (T : Int)] W fun e w' => e = .returned (.bool true) ∧ W = w' := fun W => by
    have := tick_any W (T : Int)
    rw [decide_eq_true (show isT (T : Int) from ⟨by omega, by omega⟩)] at this
    exact this
  have KF := Lib.hid kf
  have KT := Lib.hid kt
  have HB1 := Lib.hid hb1
  have c0 : Boxed w1 w.heap.size 3 (.int .i64 kd) ∧ Boxed w1 (w.heap.size + 1) 3 (.int .i64 ix) ∧ Boxed w1 (w.heap.size + 1 + 1) 3 (.int .i64 (F : Int)) ∧ Boxed w1 (w.heap.size + 1 + 1 + 1) 3 (.int .i64 (T : Int)) := by
    rw [hw1]
    refine ⟨(((Boxed.new w 3 _).alloc _).alloc _).alloc _, ?_, ?_, ?_⟩
    · have := ((Boxed.new (w.alloc (.cells #[.int .i64 kd] 3)) 3 (.int .i64 ix)).alloc (.cells #[.int .i64 (F : Int)] 3)).alloc (.cells #[.int .i64 (T : Int)] 3)
      rw [World.size_alloc] at this; exact this
    · have := (Boxed.new ((w.alloc (.cells #[.int .i64 kd] 3)).alloc (.cells #[.int .i64 ix] 3)) 3 (.int .i64 (F : Int))).alloc (.cells #[.int .i64 (T : Int)] 3)
      rw [World.size_alloc, World.size_alloc] at this; exact this
    · have := Boxed.new (((w.alloc (.cells #[.int .i64 kd] 3)).alloc (.cells #[.int .i64 ix] 3)).alloc (.cells #[.int .i64 (F : Int)] 3)) 3 (.int .i64 (T : Int))
      rw [World.size_alloc, World.size_alloc, World.size_alloc] at this; exact this
  have c1 : ∀ W, Below w1.heap.size w1 W → Boxed W w.heap.size 3 (.int .i64 kd) ∧ Boxed W (w.heap.size + 1) 3 (.int .i64 ix) ∧ Boxed W (w.heap.size + 1 + 1) 3 (.int .i64 (F : Int)) ∧ Boxed W (w.heap.size + 1 + 1 + 1) 3 (.int .i64 (T : Int)) := fun W hW =>
    ⟨(hW.block _ c0.1.lt).trans c0.1, (hW.block _ c0.2.1.lt).trans c0.2.1, (hW.block _ c0.2.2.1.lt).trans c0.2.2.1, (hW.block _ c0.2.2.2.lt).trans c0.2.2.2⟩
  rw [hw1] at c1
  have HW := Lib.hid (And.intro hw1 (And.intro ht hLe))
  have C1 := Lib.hid c1
  have hFI : ¬ (T : Int) < (F : Int) := by omega
  clear e1 e2 hw1 ht c0 c1 kf kt hb1 hLe
  refine (callsIn_wide (n := 9)).1 ?_
  refine callsIn_of_wp_marks Try.func14 rfl trivial ?_ rfl
  simp only [Try.ntmps14, List.size_toArray, List.length_cons, List.length_nil, Nat.reduceAdd, Nat.reduceSub, Array.replicate_succ, Array.replicate_zero, List.push_toArray, List.append_toArray, List.nil_append, List.cons_append]
  gi_wp2_with (first
      | (refine ⟨trivial, ?_⟩; gi_at_call 8; refine (callsIn_wide.2 k).mono ?_; rintro e w2 ⟨rfl, hb⟩; obtain ⟨b1, b2, b3, b4⟩ := C1.out _ hb; have d3 := (b3.alloc (.cells #[.int .i64 (L : Int)] 3)).cell; have d4 := (b4.alloc (.cells #[.int .i64 (L : Int)] 3)).cell; have HB2 := Lib.hid (And.intro hb (And.intro b1 (And.intro b2 (And.intro b3 b4)))); clear hb b1 b2 b3 b4)
      | (refine ⟨trivial, ?_⟩; gi_at_call 36; refine (callsIn_wide.2 (KF.out _)).mono ?_; rintro e _ ⟨rfl, rfl⟩)
      | (refine ⟨trivial, ?_⟩; gi_at_call 36; refine (callsIn_wide.2 (KT.out _)).mono ?_; rintro e _ ⟨rfl, rfl⟩)
      | (refine ⟨trivial, ?_⟩; gi_at_call 32; refine (spans_any _ _ _ _ _ _).mono ?_; rintro e w3 ⟨rfl, rfl⟩))
  obtain ⟨S, hS⟩ : ∃ S, S = w2.heap.size := ⟨_, rfl⟩
  obtain ⟨s0, hs0⟩ : ∃ s0, s0 = w.heap.size := ⟨_, rfl⟩
  obtain ⟨b0, hb00⟩ : ∃ b0 : Nat, b0 = 0 := ⟨_, rfl⟩
  obtain ⟨W0, hW0⟩ : ∃ W0, W0 = (((w2.alloc (.cells #[.int .i64 (L : Int)] 3)).alloc (.cells #[.int .i64 0] 3)).alloc (.cells #[.slice q n cap0] 22)).alloc (.cells #[.int .i64 0] 3) := ⟨_, rfl⟩
  obtain ⟨hw1, ht, hLe⟩ := HW.out
  obtain ⟨hb2w, b1, b2, b3, b4⟩ := HB2.out
  rw [← hw1] at hb2w
  have hsz1 : w1.heap.size = s0 + 4 := by rw [hw1, hs0]; simp
  have hsS : s0 + 4 ≤ S := by rw [← hsz1, hS]; exact hb2w.size
  have hsz : W0.heap.size = S + 4 := by rw [hW0, hS]; simp
  have bL : Boxed W0 S 3 (.int .i64 (L : Int)) := by rw [hW0, hS]; exact (((Boxed.new w2 3 _).alloc _).alloc _).alloc _
  have bA : Boxed W0 (S + 1) 3 (.int .i64 0) := by
    have := ((Boxed.new (w2.alloc (.cells #[.int .i64 (L : Int)] 3)) 3 (.int .i64 0)).alloc (.cells #[.slice q n cap0] 22)).alloc (.cells #[.int .i64 0] 3)
    rw [World.size_alloc, ← hS, ← hW0] at this; exact this
  have c1 : W0.cell? ⟨S + 1 + 1, 0, none⟩ = some (.slice q n cap0) := by
    have := ((Boxed.new ((w2.alloc (.cells #[.int .i64 (L : Int)] 3)).alloc (.cells #[.int .i64 0] 3)) 22 (.slice q n cap0)).alloc (.cells #[.int .i64 0] 3)).cell
    rw [World.size_alloc, World.size_alloc, ← hS, ← hW0] at this; exact this
  have c2 : W0.cell? ⟨S + 1 + 1 + 1, 0, none⟩ = some (.int .i64 (b0 : Int)) := by
    rw [hb00]
    have := (Boxed.new (((w2.alloc (.cells #[.int .i64 (L : Int)] 3)).alloc (.cells #[.int .i64 0] 3)).alloc (.cells #[.slice q n cap0] 22)) 3 (.int .i64 0)).cell
    rw [World.size_alloc, World.size_alloc, World.size_alloc, ← hS, ← hW0] at this; exact this
  have g1 : Boxed W0 s0 3 (.int .i64 kd) := by rw [hW0, hs0]; exact (((b1.alloc _).alloc _).alloc _).alloc _
  have g2 : Boxed W0 (s0 + 1) 3 (.int .i64 ix) := by rw [hW0, hs0]; exact (((b2.alloc _).alloc _).alloc _).alloc _
  have g3 : Boxed W0 (s0 + 1 + 1) 3 (.int .i64 (F : Int)) := by rw [hW0, hs0]; exact (((b3.alloc _).alloc _).alloc _).alloc _
  have g4 : Boxed W0 (s0 + 1 + 1 + 1) 3 (.int .i64 (T : Int)) := by rw [hW0, hs0]; exact (((b4.alloc _).alloc _).alloc _).alloc _
  have hb1 : Below s0 w w1 := by rw [hs0]; exact HB1.out
  have hb0 : Below s0 w W0 := by
    rw [hW0]
    exact ((((hb1.trans (hb2w.mono (by omega))).alloc (by omega) _).alloc (by simp; omega) _).alloc (by simp; omega) _).alloc (by simp; omega) _
  have hT0 : WinV (fun k => G k ∧ k < s0) W0 (.slice q n cap0) ws := by
    have := ht.lt (s := s0) (by omega)
    rw [hs0] at hb0
    exact this.below hb0
  rw [← hW0, ← hS, ← hs0]
  have HS := Lib.hid (And.intro hS (And.intro hs0 (And.intro hb0 (And.intro hsz (And.intro hb00 hLe)))))
  have HGB := Lib.hid (And.intro bL (And.intro bA (And.intro g1 (And.intro g2 (And.intro g3 g4)))))
  have hbz : b0 ≤ 2199023255552 := by omega
  clear hW0 k hS d3 d4 hs0 hb0 hw1 ht hb2w hsz1 HB2 C1 HW hb00 hLe b1 b2 b3 b4 bL g1 g2 g3 g4 KF KT
  refine range_spans (bb := S + 1 + 1) (s := s0) (n1 := S + 4) G b0 hbz (.slice q n cap0) ws hok
    (fun i Bx => #[.slice q n cap0, .int .i64 kd, .int .i64 ix, .int .i64 (F : Int), .int .i64 (T : Int), undef, .pointer (some ⟨s0, 0, none⟩), .pointer (some ⟨s0 + 1, 0, none⟩), .pointer (some ⟨s0 + 1 + 1, 0, none⟩), .pointer (some ⟨s0 + 1 + 1 + 1, 0, none⟩), .int .i64 0, .int .i64 0,
      .pointer (some ⟨S, 0, none⟩), .int .i64 0, .pointer (some ⟨S + 1, 0, none⟩), undef, .pointer (some ⟨Bx, 0, none⟩), .tuple #[.int .i64 (L : Int), .int .i64 0], .slice q n cap0, .tuple #[.int .i64 (L : Int), .int .i64 0], .int .i64 (L : Int), .int .i64 0, .int .i64 0, .bool false, undef, .int .i64 (F : Int),
      .bool true, .bool false, .bool false, .int .i64 (T : Int), .bool true, .bool false, .bool false, .bool false, .int .i64 (F : Int), .int .i64 (T : Int), .bool false, .bool false, .slice q n cap0,
      .func (.func 44) #[] #[.pointer (some ⟨S + 1 + 1 + 1, 0, none⟩), .pointer (some ⟨S + 1 + 1, 0, none⟩)], .int .i64 (i : Int), .agg (scells ws b0 i), undef, undef, undef, undef, undef, undef, undef, undef, undef, undef, undef, undef, undef, undef, undef, undef])
    rfl c2 c1 hT0 (by omega) (by omega) hsz
    (fun pre W => Boxed W (S + 1) 3 (.int .i64 (acc ws kd ix F T pre)) ∧ Ch (onB (S + 1)) W0 W)
    (fun c pre W => False) ?hI (fun _ _ _ _ _ h _ _ => h) ⟨bA, Ch.refl _ _⟩ (fun _ _ h => by rw [← hsz]; exact h.2.size) ?assign ?body ?done (fun _ _ _ _ _ _ h _ => h.elim)
  case hI =>
    exact OwnFrom.and (fun pre W W' row h hg hr => h.kept hg (fun e => by have := (hr _ e.symm).1; omega)) (own_ch hsz)
  case assign =>
    rintro l pre x W K hi hK
    have HK := Lib.hid hK
    clear hi hK
    dsimp only [encS]
    gi_wp2
    exact HK.out
  case body =>
    rintro l pre x Bx W hl ⟨r, hr⟩ ⟨hbA, hch⟩ hBx bX hlt
    obtain ⟨bL, bA, g1, g2, g3, g4⟩ := HGB.out
    have k1 : Boxed W s0 3 (.int .i64 kd) := (hch.block s0 (by omega) (show ¬ s0 = S + 1 by omega)).trans g1
    have k2 : Boxed W (s0 + 1) 3 (.int .i64 ix) := (hch.block (s0 + 1) (by omega) (show ¬ s0 + 1 = S + 1 by omega)).trans g2
    have k3 : Boxed W (s0 + 1 + 1) 3 (.int .i64 (F : Int)) := (hch.block (s0 + 1 + 1) (by omega) (show ¬ s0 + 1 + 1 = S + 1 by omega)).trans g3
    have k4 : Boxed W (s0 + 1 + 1 + 1) 3 (.int .i64 (T : Int)) := (hch.block (s0 + 1 + 1 + 1) (by omega) (show ¬ s0 + 1 + 1 + 1 = S + 1 by omega)).trans g4
    have k5 : Boxed W S 3 (.int .i64 (L : Int)) := (hch.block S (by omega) (show ¬ S = S + 1 by omega)).trans bL
    obtain ⟨i, hi⟩ : ∃ i, i = x.1 := ⟨_, rfl⟩
    have hil : i < ws.length := by rw [hi]; exact x.2
    have hbi := bnd_ok hok i (Nat.le_of_lt hil)
    obtain ⟨hg1, hg2, hg3⟩ := tks_get hok i hil
    obtain ⟨m, hm⟩ : ∃ m : Nat, m = (tks ws)[i]'(by rw [tks_len]; exact hil) := ⟨_, rfl⟩
    rw [← hm] at hg1 hg2 hg3
    have hmD : (tks ws).getD i 0 = m := by rw [hm, List.getD_eq_getElem?_getD, List.getElem?_eq_getElem (by rw [tks_len]; exact hil)]; rfl
    obtain ⟨f, hf⟩ : ∃ f, f = (ws.getD i w0).1 := ⟨_, rfl⟩
    obtain ⟨d, hd⟩ : ∃ d, d = (ws.getD i w0).2.1 := ⟨_, rfl⟩
    obtain ⟨A, hA⟩ : ∃ A, A = bnd (tks ws) i := ⟨_, rfl⟩
    obtain ⟨B, hB⟩ : ∃ B, B = bnd (tks ws) (i + 1) := ⟨_, rfl⟩
    rw [← hA] at hbi
    have hcb : ctb ws kd ix F T i = if isB f d kd ix = true then ((ahd A m L T : Nat) : Int) - ((ahd A m L F : Nat) : Int) else 0 := by
      unfold ctb; rw [hmD, ← HS.out.2.2.2.2.2, ← hf, ← hd, ← hA]
    have hb00 := HS.out.2.2.2.2.1
    have eX : scells ws b0 x.1 = #[.int .i64 f, .int .i64 d, .int .i64 (m : Int), .int .i64 (A : Int), .int .i64 (B : Int)] := by
      unfold scells; rw [← hi, ← hf, ← hd, hg1, ← hA, ← hB, hb00, Nat.zero_add, Nat.zero_add]
    rw [eX] at bX ⊢
    have kis := is_any W f d (m : Int) (A : Int) (B : Int) kd ix
    have HI := Lib.hid (And.intro hbA (And.intro hch (And.intro hi (And.intro hcb (And.intro k3 (And.intro k4 (And.intro k5 bX)))))))
    have y1 := k1.cell
    have y2 := k2.cell
    have x0 : W.cell? ⟨Bx, 0, none⟩ = some (.int .i64 f) := by rw [cell_of_row _ _ _ _ _ _ bX]; rfl
    have x1 : W.cell? ⟨Bx, 1, none⟩ = some (.int .i64 d) := by rw [cell_of_row _ _ _ _ _ _ bX]; rfl
    have x2 : W.cell? ⟨Bx, 2, none⟩ = some (.int .i64 (m : Int)) := by rw [cell_of_row _ _ _ _ _ _ bX]; rfl
    have x3 : W.cell? ⟨Bx, 3, none⟩ = some (.int .i64 (A : Int)) := by rw [cell_of_row _ _ _ _ _ _ bX]; rfl
    have x4 : W.cell? ⟨Bx, 4, none⟩ = some (.int .i64 (B : Int)) := by rw [cell_of_row _ _ _ _ _ _ bX]; rfl
    have hAcc := acc_le hok kd ix (F := F) (T := T) (by omega) hT40 pre
    have hCtb := ctb_le hok kd ix (F := F) (T := T) (by omega) hT40 i
    have hlt64 : pre.length < 64 := by have := hok.2.1; omega
    have HN := Lib.hid (And.intro hAcc (And.intro hCtb hlt64))
    simp only [← hi]
    clear hbA hch hcb k1 k2 k3 k4 k5 g1 g2 g3 g4 bL bA bX hf hd hA hB hm hmD hg1 eX hi hb00 hAcc hCtb hlt64 hr hlt
    by_cases c : isB f d kd ix = true
    · rw [c] at kis
      gi_wp2_with (refine ⟨trivial, ?_⟩; gi_at_call 38; refine CallsIn.inRound l (callsIn_wide.2 (kis.mono ?_)); rintro e W1 ⟨rfl, hb1⟩; have HB2 := Lib.hid hb1; clear hb1)
      obtain ⟨hbA, hch, hi, hcb, k3, k4, k5, bX⟩ := HI.out
      have hb1 := HB2.out
      clear HB1
      have z0 := cell_below x0 hb1
      have z1 := cell_below x1 hb1
      have z2 := cell_below x2 hb1
      have z3 := cell_below x3 hb1
      have z4 := cell_below x4 hb1
      have zF := cell_below k3.cell hb1
      have zT := cell_below k4.cell hb1
      have zL := cell_below k5.cell hb1
      have bA1 : Boxed W1 (S + 1) 3 (.int .i64 (acc ws kd ix F T pre)) := (hb1.block _ hbA.lt).trans hbA
      have zA := bA1.cell
      obtain ⟨VT, hVT⟩ : ∃ VT, VT = ahd A m L T := ⟨_, rfl⟩
      obtain ⟨VF, hVF⟩ : ∃ VF, VF = ahd A m L F := ⟨_, rfl⟩
      have l1 := ahd_le (st := A) (t := m) (L := L) (k := T) hg3 hT40
      have l2 := ahd_le (st := A) (t := m) (L := L) (k := F) hg3 (by omega)
      have ka : ∀ W', Calls Try.prog 39 #[.agg #[.int .i64 f, .int .i64 d, .int .i64 (m : Int), .int .i64 (A : Int), .int .i64 (B : Int)], .int .i64 (T : Int), .int .i64 (L : Int)] W' fun e w' => e = .returned (.int .i64 (VT : Int)) ∧ Below W'.heap.size W' w' := fun W' => by rw [hVT]; exact ahead_any W' f d m A L T B hg3 hbi hL.1 hL.2 (by omega)
      have kb : ∀ W', Calls Try.prog 39 #[.agg #[.int .i64 f, .int .i64 d, .int .i64 (m : Int), .int .i64 (A : Int), .int .i64 (B : Int)], .int .i64 (F : Int), .int .i64 (L : Int)] W' fun e w' => e = .returned (.int .i64 (VF : Int)) ∧ Below W'.heap.size W' w' := fun W' => by rw [hVF]; exact ahead_any W' f d m A L F B hg3 hbi hL.1 hL.2 (by omega)
      rw [← hVT] at l1
      rw [← hVF] at l2
      rw [if_pos c, ← hVT, ← hVF] at hcb
      obtain ⟨AC, hAC⟩ : ∃ AC, AC = acc ws kd ix F T pre := ⟨_, rfl⟩
      have hAcc := HN.out.1
      have hlt64 := HN.out.2.2
      rw [← hAC] at zA hAcc
      have w1 : wrap64 ((VT : Int) - (VF : Int)) = (VT : Int) - (VF : Int) := w64 (by omega)
      have w2 : wrap64 (AC + ((VT : Int) - (VF : Int))) = AC + ((VT : Int) - (VF : Int)) := w64 (by omega)
      have w1' : IntKind.i64.wrap ((VT : Int) - (VF : Int)) = (VT : Int) - (VF : Int) := IntWalk.i64_in _ (by omega)
      have w2' : IntKind.i64.wrap (AC + ((VT : Int) - (VF : Int))) = AC + ((VT : Int) - (VF : Int)) := IntWalk.i64_in _ (by omega)
      have hS0 : Below W1.heap.size W1 W1.drew := ⟨rfl, rfl, rfl, Nat.le_refl _, fun _ _ => rfl⟩
      have HX := Lib.hid (And.intro hcb (And.intro hAC (And.intro bA1 (And.intro hch (And.intro hi hbA)))))
      clear hcb hAC bA1 hch hi hbA hVT hVF k3 k4 k5 bX x0 x1 x2 x3 x4 y1 y2 kis hAcc hlt64
      refine wpIn_round_last (fun w' : World => Below W1.heap.size W1 w') 11 (by kernel_rfl) (by kernel_rfl) rfl rfl ?_
      refine tillLast_take (i := 0) (v := .int .i64 AC) rfl (by kernel_rfl) (by kernel_rfl) (by kernel_rfl) (by kernel_rfl) (.inl ⟨by rfl, ?_⟩) hS0 ?_
      · intro w' hb
        have q0 := cell_below zA hb
        go_simp
      simp only [Act.put, List.setIfInBounds_toArray, List.set_cons_zero, List.set_cons_succ]
      refine tillLast_take (i := 1) (v := .agg #[.int .i64 f, .int .i64 d, .int .i64 (m : Int), .int .i64 (A : Int), .int .i64 (B : Int)]) rfl (by kernel_rfl) (by kernel_rfl) (by kernel_rfl) (by kernel_rfl) (.inl ⟨by rfl, ?_⟩) hS0 ?_
      · intro w' hb
        have q0 := cell_below z0 hb
        have q1 := cell_below z1 hb
        have q2 := cell_below z2 hb
        have q3 := cell_below z3 hb
        have q4 := cell_below z4 hb
        go_simp
      simp only [Act.put, List.setIfInBounds_toArray, List.set_cons_zero, List.set_cons_succ]
      refine tillLast_take (i := 2) (v := .int .i64 (T : Int)) rfl (by kernel_rfl) (by kernel_rfl) (by kernel_rfl) (by kernel_rfl) (.inl ⟨by rfl, ?_⟩) hS0 ?_
      · intro w' hb
        have q0 := cell_below zT hb
        go_simp
      simp only [Act.put, List.setIfInBounds_toArray, List.set_cons_zero, List.set_cons_succ]
      refine tillLast_take (i := 3) (v := .int .i64 (L : Int)) rfl (by kernel_rfl) (by kernel_rfl) (by kernel_rfl) (by kernel_rfl) (.inl ⟨by rfl, ?_⟩) hS0 ?_
      · intro w' hb
        have q0 := cell_below zL hb
        go_simp
      simp only [Act.put, List.setIfInBounds_toArray, List.set_cons_zero, List.set_cons_succ]
      refine tillLast_take (i := 5) (v := .agg #[.int .i64 f, .int .i64 d, .int .i64 (m : Int), .int .i64 (A : Int), .int .i64 (B : Int)]) rfl (by kernel_rfl) (by kernel_rfl) (by kernel_rfl) (by kernel_rfl) (.inl ⟨by rfl, ?_⟩) hS0 ?_
      · intro w' hb
        have q0 := cell_below z0 hb
        have q1 := cell_below z1 hb
        have q2 := cell_below z2 hb
        have q3 := cell_below z3 hb
        have q4 := cell_below z4 hb
        go_simp
      simp only [Act.put, List.setIfInBounds_toArray, List.set_cons_zero, List.set_cons_succ]
      refine tillLast_take (i := 6) (v := .int .i64 (F : Int)) rfl (by kernel_rfl) (by kernel_rfl) (by kernel_rfl) (by kernel_rfl) (.inl ⟨by rfl, ?_⟩) hS0 ?_
      · intro w' hb
        have q0 := cell_below zF hb
        go_simp
      simp only [Act.put, List.setIfInBounds_toArray, List.set_cons_zero, List.set_cons_succ]
      refine tillLast_take (i := 7) (v := .int .i64 (L : Int)) rfl (by kernel_rfl) (by kernel_rfl) (by kernel_rfl) (by kernel_rfl) (.inl ⟨by rfl, ?_⟩) hS0 ?_
      · intro w' hb
        have q0 := cell_below zL hb
        go_simp
      simp only [Act.put, List.setIfInBounds_toArray, List.set_cons_zero, List.set_cons_succ]
      refine tillLast_call (i := 4) rfl (by kernel_rfl) (by rfl) ?_ (ka _) ?_
      · go_simp
      rintro e w2 ⟨rfl, hb2⟩
      refine ⟨_, rfl, hS0.trans (hb2.mono hS0.size), ?_⟩
      have hS1 := hS0.trans (hb2.mono hS0.size)
      simp only [Act.put, List.setIfInBounds_toArray, List.set_cons_zero, List.set_cons_succ]
      refine tillLast_call (i := 8) rfl (by kernel_rfl) (by rfl) ?_ (kb _) ?_
      · go_simp
      rintro e w3 ⟨rfl, hb3⟩
      refine ⟨_, rfl, hS1.trans (hb3.mono hS1.size), ?_⟩
      have hS2 := hS1.trans (hb3.mono hS1.size)
      simp only [Act.put, List.setIfInBounds_toArray, List.set_cons_zero, List.set_cons_succ]
      refine tillLast_one (i := 9) (v := .int .i64 ((VT : Int) - (VF : Int))) (w' := w3) rfl (by kernel_rfl) (by rfl) ?_ hS2 ?_
      · go_simp
      simp only [Act.put, List.setIfInBounds_toArray, List.set_cons_zero, List.set_cons_succ]
      refine tillLast_one (i := 10) (v := .int .i64 (AC + ((VT : Int) - (VF : Int)))) (w' := w3) rfl (by kernel_rfl) (by rfl) ?_ hS2 ?_
      · go_simp
      simp only [Act.put, List.setIfInBounds_toArray, List.set_cons_zero, List.set_cons_succ]
      have bA3 : Boxed w3 (S + 1) 3 (.int .i64 AC) := (hS2.block _ HX.out.2.2.1.lt).trans (by rw [HX.out.2.1]; exact HX.out.2.2.1)
      have c3 := bA3.cell
      have f3 := bA3.frozen
      refine ⟨by kernel_rfl, by kernel_rfl, by rfl, w3.setCell ⟨S + 1, 0, none⟩ (.int .i64 (AC + ((VT : Int) - (VF : Int)))), ?_, ?_⟩
      · go_simp
      gi_wp2
      obtain ⟨hcb, hAC, bA1, hch, hi, hbA⟩ := HX.out
      have hb3 : Below W.heap.size W w3 := hb1.trans (hS2.mono hb1.size)
      refine ⟨(KeepsFrom.of_below (S + 4) hb3).trans ((KeepsOthers.setCell _ _ _).from _), ⟨by rw [setCell_size]; exact hb3.size, fun k hk hK => ?_⟩, ?_, (hch.then_below hb3).setCell (p := S + 1) rfl 0 _⟩
      · rw [block_setCell_other (show k ≠ S + 1 by omega)]; exact hb3.block k hk
      · rw [acc_snoc, ← hi, hcb, ← hAC]
        exact bA3.set _
    · have c2 : isB f d kd ix = false := by simpa using c
      rw [c2] at kis
      gi_wp2_with (refine ⟨trivial, ?_⟩; gi_at_call 38; refine CallsIn.inRound l (callsIn_wide.2 (kis.mono ?_)); rintro e W1 ⟨rfl, hb1⟩; have HB2 := Lib.hid hb1; clear hb1)
      obtain ⟨hbA, hch, hi, hcb, k3, k4, k5, bX⟩ := HI.out
      have hb1 := HB2.out
      refine ⟨KeepsFrom.of_below (S + 4) hb1, ⟨hb1.size, fun k hk _ => hb1.block k hk⟩, ?_, hch.then_below hb1⟩
      rw [acc_snoc, ← hi, hcb, if_neg c, Int.add_zero]
      exact (hb1.block _ hbA.lt).trans hbA
  case done =>
    rintro D ys W hD hall ⟨hbA, hch⟩ hK
    have c5 := hbA.cell
    have HI := Lib.hid (And.intro hch (And.intro hall hD))
    clear hbA hch hall hD
    gi_wp2
    refine ⟨by simp, .inl ⟨_, _, rfl, run_takeDeferred hK, ?_⟩⟩
    refine ⟨_, results_tmp2 rfl _ _ _, by rw [← acc_all HI.out.2.1]; rfl, ?_⟩
    obtain ⟨hS, hs0, hb0, _⟩ := HS.out
    rw [← hs0]
    exact (hb0.trans (HI.out.1.below (by omega) (fun k hk => by have : k = S + 1 := hk; omega))).trans (belowK_b (w := W0) (by omega) _ D _ _ (by rw [hsz]; exact HI.out.2.2) hK rfl rfl)
set_option maxRecDepth 100000 in
set_option maxHeartbeats 4000000 in
theorem tic_no (w : World) (G : Nat → Prop) (v : Value) (ws : List Wn) (ht : WinV G w v ws) (hok : ¬ okL ws) (kd ix F T : Int) :
    Calls Try.prog 14 #[v, .int .i64 kd, .int .i64 ix, .int .i64 F, .int .i64 T] w fun e w' => e = .returned (.tuple #[.int .i64 0, .int .i64 130]) ∧ Below w.heap.size w w' := by
  obtain ⟨w1, hw1⟩ : ∃ w1, w1 = (((w.alloc (.cells #[.int .i64 kd] 3)).alloc (.cells #[.int .i64 ix] 3)).alloc (.cells #[.int .i64 F] 3)).alloc (.cells #[.int .i64 T] 3) := ⟨_, rfl⟩
  have hb1 : Below w.heap.size w w1 := by rw [hw1]; exact ((((Below.refl _ w).alloc (Nat.le_refl _) _).alloc (by simp) _).alloc (by simp; omega) _).alloc (by simp; omega) _
  have k := len_any w1 G _ ws (ht.below hb1)
  have HB1 : Hid (∀ (W : World) (o : Obj), Below w1.heap.size w1 W → Below w.heap.size w (W.alloc o)) := Lib.hid fun W o hW => (hb1.trans (hW.mono hb1.size)).alloc (Nat.le_trans hb1.size hW.size) _
  rw [show chkE ws = 130 from if_neg hok, hw1] at k
  rw [hw1] at HB1
  generalize lenV ws = L at *
  obtain ⟨q, n, cap0, rfl⟩ : ∃ q n cap, v = .slice q n cap := by obtain ⟨q, cap, e, _⟩ := ht; exact ⟨_, _, _, e⟩
  clear ht hok hb1 hw1
  go_enter Try.func14, Try.ntmps14
  go_wp2_with (go_at_call 8; refine k.mono ?_; rintro e w2 ⟨rfl, hb⟩; have HB := HB1.out w2 (.cells #[.int .i64 L] 3) hb; have HB := Lib.hid HB; clear hb)
  go_ret2
  exact ⟨rfl, HB.out⟩
set_option maxRecDepth 100000 in
set_option maxHeartbeats 4000000 in
theorem tic_bad (w : World) (G : Nat → Prop) (v : Value) (ws : List Wn) (ht : WinV G w v ws) (hok : okL ws) (kd ix F T : Int) (hbad : ¬ (isT F ∧ isT T ∧ F ≤ T)) :
    Calls Try.prog 14 #[v, .int .i64 kd, .int .i64 ix, .int .i64 F, .int .i64 T] w fun e w' => e = .returned (.tuple #[.int .i64 0, .int .i64 1]) ∧ Below w.heap.size w w' := by
  obtain ⟨w1, hw1⟩ : ∃ w1, w1 = (((w.alloc (.cells #[.int .i64 kd] 3)).alloc (.cells #[.int .i64 ix] 3)).alloc (.cells #[.int .i64 F] 3)).alloc (.cells #[.int .i64 T] 3) := ⟨_, rfl⟩
  have hb1 : Below w.heap.size w w1 := by rw [hw1]; exact ((((Below.refl _ w).alloc (Nat.le_refl _) _).alloc (by simp) _).alloc (by simp; omega) _).alloc (by simp; omega) _
  have k := len_any w1 G _ ws (ht.below hb1)
  have c0 : Boxed w1 (w.heap.size + 1 + 1) 3 (.int .i64 F) ∧ Boxed w1 (w.heap.size + 1 + 1 + 1) 3 (.int .i64 T) := by
    rw [hw1]
    refine ⟨?_, ?_⟩
    · have := (Boxed.new ((w.alloc (.cells #[.int .i64 kd] 3)).alloc (.cells #[.int .i64 ix] 3)) 3 (.int .i64 F)).alloc (.cells #[.int .i64 T] 3)
      rw [World.size_alloc, World.size_alloc] at this; exact this
    · have := Boxed.new (((w.alloc (.cells #[.int .i64 kd] 3)).alloc (.cells #[.int .i64 ix] 3)).alloc (.cells #[.int .i64 F] 3)) 3 (.int .i64 T)
      rw [World.size_alloc, World.size_alloc, World.size_alloc] at this; exact this
  rw [show chkE ws = 0 from if_pos hok] at k
  generalize lenV ws = L at *
  have HB1 : Hid (∀ (W : World), Below w1.heap.size w1 W → Below w.heap.size w (W.alloc (.cells #[.int .i64 L] 3)) ∧ (W.alloc (.cells #[.int .i64 L] 3)).cell? ⟨w.heap.size + 1 + 1, 0, none⟩ = some (.int .i64 F) ∧ (W.alloc (.cells #[.int .i64 L] 3)).cell? ⟨w.heap.size + 1 + 1 + 1, 0, none⟩ = some (.int .i64 T)) := Lib.hid fun W hW =>
    ⟨(hb1.trans (hW.mono hb1.size)).alloc (Nat.le_trans hb1.size hW.size) _, (Boxed.alloc (show Boxed W _ 3 _ from (hW.block _ c0.1.lt).trans c0.1) _).cell, (Boxed.alloc (show Boxed W _ 3 _ from (hW.block _ c0.2.lt).trans c0.2) _).cell⟩
  rw [hw1] at k HB1
  obtain ⟨q, n, cap0, rfl⟩ : ∃ q n cap, v = .slice q n cap := by obtain ⟨q, cap, e, _⟩ := ht; exact ⟨_, _, _, e⟩
  have kf := fun W => tick_any W F
  have kt := fun W => tick_any W T
  clear ht hok hb1 hw1 c0
  by_cases a : isT F
  · rw [decide_eq_true a] at kf
    by_cases b : isT T
    · rw [decide_eq_true b] at kt
      have c : T < F := Int.not_le.1 (fun q => hbad ⟨a, b, q⟩)
      have KF := Lib.hid kf
      have KT := Lib.hid kt
      clear a b hbad kf kt
      go_enter Try.func14, Try.ntmps14
      go_wp2_with (first
        | (go_at_call 8; refine k.mono ?_; rintro e w2 ⟨rfl, hb⟩; obtain ⟨HB, d3, d4⟩ := HB1.out w2 hb; have HB := Lib.hid HB; clear hb)
        | (go_at_call 36; refine (KF.out _).mono ?_; rintro e _ ⟨rfl, rfl⟩)
        | (go_at_call 36; refine (KT.out _).mono ?_; rintro e _ ⟨rfl, rfl⟩))
      go_ret2
      exact ⟨rfl, HB.out⟩
    · rw [decide_eq_false b] at kt
      have KF := Lib.hid kf
      have KT := Lib.hid kt
      clear a b hbad kf kt
      go_enter Try.func14, Try.ntmps14
      go_wp2_with (first
        | (go_at_call 8; refine k.mono ?_; rintro e w2 ⟨rfl, hb⟩; obtain ⟨HB, d3, d4⟩ := HB1.out w2 hb; have HB := Lib.hid HB; clear hb)
        | (go_at_call 36; refine (KF.out _).mono ?_; rintro e _ ⟨rfl, rfl⟩)
        | (go_at_call 36; refine (KT.out _).mono ?_; rintro e _ ⟨rfl, rfl⟩))
      go_ret2
      exact ⟨rfl, HB.out⟩
  · rw [decide_eq_false a] at kf
    have KF := Lib.hid kf
    clear a hbad kf kt
    go_enter Try.func14, Try.ntmps14
    go_wp2_with (first
      | (go_at_call 8; refine k.mono ?_; rintro e w2 ⟨rfl, hb⟩; obtain ⟨HB, d3, d4⟩ := HB1.out w2 hb; have HB := Lib.hid HB; clear hb)
      | (go_at_call 36; refine (KF.out _).mono ?_; rintro e _ ⟨rfl, rfl⟩))
    go_ret2
    exact ⟨rfl, HB.out⟩
theorem tic_any (w : World) (G : Nat → Prop) (v : Value) (ws : List Wn) (ht : WinV G w v ws) (kd ix F T : Int) :
    Calls Try.prog 14 #[v, .int .i64 kd, .int .i64 ix, .int .i64 F, .int .i64 T] w fun e w' => e = .returned (.tuple #[.int .i64 (tickV ws kd ix F T).1, .int .i64 (tickV ws kd ix F T).2]) ∧ Below w.heap.size w w' := by
  by_cases hok : okL ws
  · by_cases h : isT F ∧ isT T ∧ F ≤ T
    · obtain ⟨f, rfl⟩ : ∃ n : Nat, F = (n : Int) := ⟨F.toNat, by have := h.1.1; omega⟩
      obtain ⟨t, rfl⟩ : ∃ n : Nat, T = (n : Int) := ⟨T.toNat, by have := h.2.1.1; omega⟩
      have e : tickV ws kd ix (f : Int) (t : Int) = (tkN ws kd ix f t, 0) := by unfold tickV; rw [if_pos hok, if_pos h]; rfl
      rw [e]
      exact tic_yes w G v ws ht hok kd ix f t (by have := h.2.1.2; omega) (by have := h.2.2; omega)
    · have e : tickV ws kd ix F T = (0, 1) := by unfold tickV; rw [if_pos hok, if_neg h]
      rw [e]
      exact tic_bad w G v ws ht hok kd ix F T h
  · have e : tickV ws kd ix F T = (0, 130) := by unfold tickV; rw [if_neg hok]
    rw [e]
    exact tic_no w G v ws ht hok kd ix F T
end Go.Proofs.Ytgbmddjpaibcfaa
