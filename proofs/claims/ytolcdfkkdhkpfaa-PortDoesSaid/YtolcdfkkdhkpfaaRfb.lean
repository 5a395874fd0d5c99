/- The document's port: Receive and Send. No conditions. -/
import Derived.Test.YtolcdfkkdhkpfaaRfa
namespace Go.Proofs.Ytolcdfkkdhkpfaa
open Go.RowKit Go.Maps Go.Sort Go.Lib
set_option linter.unusedVariables false
set_option linter.unusedSimpArgs false

theorem IsR.same {W w' : World} {G : Nat → Prop} {c : Cf} {r : Nat} {t : Po} {v : Value} (h : IsR W G c r t) (hb : Below W.heap.size W w') : RefP W G c r v t (.returned v) w' := ⟨rfl, (h.below hb).mono fun _ _ hk => .inl hk, Ch.of_below hb⟩
set_option maxHeartbeats 4000000 in
theorem rrecv_any (W : World) (G : Nat → Prop) (c : Cf) (r : Nat) (t : Po) (h : IsR W G c r t) (hG : ¬ G r) (hok : t.ok) (tk : Int) : Calls Try.prog 15 #[.pointer (some ⟨r, 0, none⟩), .int .i64 tk] W (RefP W G c r (recvV t tk) (recvS t tk)) := by
  obtain ⟨qL, cL, qT, cT, c0, c3, c4, c5, c6, c7, fz, hL, ts, hT, hts, hsent⟩ := h.cells
  have f5 := fz 5
  have f6 := fz 6
  have f7 := fz 7
  clear fz
  have hk0 : c.kind = t.kind := h.1.1
  by_cases tok : okT tk
  · have t0 : 0 ≤ tk := tok.1
    have t1 : tk ≤ 1099511627776 := tok.2
    by_cases b : t.l = []
    · have e : recvE t tk = 142 := by unfold recvE; rw [if_pos tok, if_pos b]
      have e2 : recvS t tk = t := by unfold recvS; rw [e, if_neg (by simp)]
      have e3 : recvV t tk = .tuple #[.string ByteArray.empty, .int .i64 0, .int .i64 142] := by unfold recvV recvM recvN; rw [e, if_neg (by decide), if_neg (by decide)]
      rw [e2, e3]
      have nl : t.l.length = 0 := by rw [b]; rfl
      rw [nl] at c5
      have H0 : Hid (RefP W G c r (.tuple #[.string ByteArray.empty, .int .i64 0, .int .i64 142]) t (.returned (.tuple #[.string ByteArray.empty, .int .i64 0, .int .i64 142])) W) := Lib.hid (h.same (Below.refl _ _))
      clear e e2 e3 tok b h nl hL hT hts hsent hok hk0 c0 c3 c4 c6 c7
      go_enter Try.func15, Try.ntmps15
      go_wp2
      go_ret3
      exact H0.out
    · obtain ⟨m, l, hl⟩ : ∃ m l, t.l = m :: l := by
        cases hh : t.l with
        | nil => exact absurd hh b
        | cons m l => exact ⟨m, l, rfl⟩
      have e : recvE t tk = 0 := by unfold recvE; rw [if_pos tok, if_neg b]
      have eM : recvM t tk = m := by unfold recvM; rw [if_pos e, hl]; rfl
      obtain ⟨x, xs, hx⟩ : ∃ x xs, ts = x :: xs := by
        cases hh : ts with
        | nil => rw [hh, hl] at hts; simp at hts
        | cons x xs => exact ⟨x, xs, rfl⟩
      have hlen : t.l.length = l.length + 1 := by rw [hl]; rfl
      have nI : (0 : Int) < (t.l.length : Int) := by omega
      have nI2 : (((t.l.length : Nat) : Int) == 0) = false := by simp; omega
      have nI3 : (1 : Int) ≤ (t.l.length : Int) := by omega
      obtain ⟨bL, oL, rfl, gL⟩ : ∃ b o, qL = some ⟨b, o, none⟩ ∧ W.cell? ⟨b, o, none⟩ = some (.string m) := by
        obtain ⟨q, cap, e1, _, h3⟩ := hL.slice
        injection e1 with e1 e2 e3
        obtain ⟨b, o, e4, h5⟩ := h3 (by rw [List.length_map]; omega)
        exact ⟨b, o, e1.trans e4, h5 0 _ (by rw [hl]; rfl)⟩
      obtain ⟨bT, oT, rfl, gT⟩ : ∃ b o, qT = some ⟨b, o, none⟩ ∧ W.cell? ⟨b, o, none⟩ = some (.int .i64 x) := by
        obtain ⟨q, cap, e1, _, h3⟩ := hT.slice
        injection e1 with e1 e2 e3
        obtain ⟨b, o, e4, h5⟩ := h3 (by rw [List.length_map]; omega)
        exact ⟨b, o, e1.trans e4, h5 0 _ (by rw [hx]; rfl)⟩
      have capL : t.l.length ≤ cL := by
        obtain ⟨q, cap, e1, h2, _⟩ := hL.slice
        injection e1 with e1 e2 e3
        rw [List.length_map] at h2; omega
      have capT : t.l.length ≤ cT := by
        obtain ⟨q, cap, e1, h2, _⟩ := hT.slice
        injection e1 with e1 e2 e3
        rw [List.length_map] at h2; omega
      by_cases z : t.kind = 0
      · have hxs : x = t.sent := by
          have := hsent z b
          rw [hx] at this
          injection this
        have e2 : recvS t tk = t := by unfold recvS; rw [if_neg (fun x => x.2 z)]
        have e3 : recvV t tk = .tuple #[.string m, .int .i64 (max 0 (tk - x)), .int .i64 0] := by unfold recvV recvN; rw [eM, e, if_pos rfl, if_pos z, hxs, Int.max_comm]
        rw [e2, e3]
        have hs := hok.sent
        rw [← hxs] at hs
        have q1 : IntKind.i64.wrap (tk - x) = tk - x := IntWalk.i64_in _ (by unfold okT at hs; omega)
        have q2 : wrap64 (tk - x) = tk - x := w64 (by unfold okT at hs; omega)
        have kI : (c.kind == 0) = true := by rw [hk0, z]; rfl
        have H0 : Hid (∀ k, RefP W G c r (.tuple #[.string m, .int .i64 (max 0 (tk - x)), .int .i64 0]) t (.returned (.tuple #[.string m, .int .i64 (max 0 (tk - x)), .int .i64 0])) (W.drewN k)) := Lib.hid fun k => h.same (below_drewN (Below.refl _ _) k)
        clear e e2 e3 tok b h hL hT hts hsent hok hk0 c3 c4 c7 eM hl hx hlen hxs hs z capL capT
        generalize t.l.length = n at *
        go_enter Try.func15, Try.ntmps15
        go_wp2
        go_quiet (fail)
        go_wp2
        go_ret3
        exact H0.out _
      · have e2 : recvS t tk = { t with l := l, lost := 0 } := by unfold recvS; rw [if_pos ⟨e, z⟩, hl]; rfl
        have e3 : recvV t tk = .tuple #[.string m, .int .i64 (t.lost : Int), .int .i64 0] := by unfold recvV recvN; rw [eM, e, if_pos rfl, if_neg z]
        rw [e2, e3]
        have kI : (c.kind == 0) = false := by rw [hk0]; simpa using z
        have cI : (t.l.length : Int) ≤ (cL : Int) := by omega
        have cI2 : (t.l.length : Int) ≤ (cT : Int) := by omega
        have tailL : ∀ q', ((cL = 1 → q' = some ⟨bL, oL, none⟩) ∧ (cL ≠ 1 → q' = some ⟨bL, oL + 1, none⟩)) → View G W (.slice q' l.length (cL - 1)) (l.map .string) := fun q' hq => by
          have hL2 := hL
          rw [hl] at hL2
          have := View.tail (q' := q') (us := l.map .string) (u := .string m) hL2 (fun b o e => by injection e with e; injection e with e1 e2; subst e1; subst e2; exact hq)
          rw [List.length_map] at this
          exact this
        have tailT : ∀ q', ((cT = 1 → q' = some ⟨bT, oT, none⟩) ∧ (cT ≠ 1 → q' = some ⟨bT, oT + 1, none⟩)) → View G W (.slice q' l.length (cT - 1)) (xs.map iV) := fun q' hq => by
          have hT2 := hT
          rw [hx] at hT2
          have := View.tail (q' := q') (us := xs.map iV) (u := iV x) hT2 (fun b o e => by injection e with e; injection e with e1 e2; subst e1; subst e2; exact hq)
          rw [List.length_map, show xs.length = l.length by rw [hx] at hts; simp at hts; omega] at this
          exact this
        have HF : Hid (∀ qL' cL' qT' cT', View G W (.slice qL' l.length cL') (l.map .string) → View G W (.slice qT' l.length cT') (xs.map iV) → RefP W G c r (.tuple #[.string m, .int .i64 (t.lost : Int), .int .i64 0]) { t with l := l, lost := 0 } (.returned (.tuple #[.string m, .int .i64 (t.lost : Int), .int .i64 0])) (((W.setCell ⟨r, 7, none⟩ (.int .i64 0)).setCell ⟨r, 5, none⟩ (.slice qL' l.length cL')).setCell ⟨r, 6, none⟩ (.slice qT' l.length cT'))) := Lib.hid fun qL' cL' qT' cT' v1 v2 => by
          obtain ⟨h0, vL, vT, h1, _⟩ := h
          have hs : (((W.setCell ⟨r, 7, none⟩ (.int .i64 0)).setCell ⟨r, 5, none⟩ (.slice qL' l.length cL')).setCell ⟨r, 6, none⟩ (.slice qT' l.length cT')).heap.size = W.heap.size := by simp [World.setCell]
          have hch : Ch (fun k => k = r) W (((W.setCell ⟨r, 7, none⟩ (.int .i64 0)).setCell ⟨r, 5, none⟩ (.slice qL' l.length cL')).setCell ⟨r, 6, none⟩ (.slice qT' l.length cT')) := (((Ch.refl (fun k => k = r) W).setCell rfl _ _).setCell rfl _ _).setCell rfl _ _
          have kp : ∀ k, k < W.heap.size → G k → (((W.setCell ⟨r, 7, none⟩ (.int .i64 0)).setCell ⟨r, 5, none⟩ (.slice qL' l.length cL')).setCell ⟨r, 6, none⟩ (.slice qT' l.length cT')).heap[k]? = W.heap[k]? := fun k hk hg => hch.block k hk (fun e => hG (by have e : k = r := e; rw [← e]; exact hg))
          exact ⟨rfl, ⟨h0, _, _, block_setCell (block_setCell (block_setCell h1)), (v1.keep hch.size kp).mono fun _ _ hk => .inl hk, xs, (v2.keep hch.size kp).mono fun _ _ hk => .inl hk, by rw [hx] at hts; simp at hts; show xs.length = l.length; omega, fun e => absurd e z⟩, hch⟩
        have HL0 : Hid (cL = 1 → View G W (.slice (some ⟨bL, oL, none⟩) l.length 0) (l.map .string)) := Lib.hid fun e => by have := tailL (some ⟨bL, oL, none⟩) ⟨fun _ => rfl, fun x => absurd e x⟩; rw [e] at this; exact this
        have HL1 : Hid (¬ cL = 1 → View G W (.slice (some ⟨bL, oL + 1, none⟩) l.length (cL - 1)) (l.map .string)) := Lib.hid fun e => tailL _ ⟨fun x => absurd x e, fun _ => rfl⟩
        have HT0 : Hid (cT = 1 → View G W (.slice (some ⟨bT, oT, none⟩) l.length 0) (xs.map iV)) := Lib.hid fun e => by have := tailT (some ⟨bT, oT, none⟩) ⟨fun _ => rfl, fun x => absurd e x⟩; rw [e] at this; exact this
        have HT1 : Hid (¬ cT = 1 → View G W (.slice (some ⟨bT, oT + 1, none⟩) l.length (cT - 1)) (xs.map iV)) := Lib.hid fun e => tailT _ ⟨fun x => absurd x e, fun _ => rfl⟩
        clear e e2 e3 tok b hts hsent hok c3 c4 eM hx hL hT tailL tailT h hG
        go_enter Try.func15, Try.ntmps15
        go_wp2
        all_goals go_ret3
        all_goals refine HF.out _ _ _ _ ?_ ?_
        all_goals first | exact HL0.out ‹cL = 1› | exact HL1.out ‹¬ cL = 1› | exact HT0.out ‹cT = 1› | exact HT1.out ‹¬ cT = 1›
  · have e : recvE t tk = 1 := by unfold recvE; rw [if_neg tok]
    have e2 : recvS t tk = t := by unfold recvS; rw [e, if_neg (by simp)]
    have e3 : recvV t tk = .tuple #[.string ByteArray.empty, .int .i64 0, .int .i64 1] := by unfold recvV recvM recvN; rw [e, if_neg (by decide), if_neg (by decide)]
    rw [e2, e3]
    have H0 : Hid (RefP W G c r (.tuple #[.string ByteArray.empty, .int .i64 0, .int .i64 1]) t (.returned (.tuple #[.string ByteArray.empty, .int .i64 0, .int .i64 1])) W) := Lib.hid (h.same (Below.refl _ _))
    by_cases t0 : 0 ≤ tk
    · have t1 : 1099511627776 < tk := by unfold okT at tok; omega
      clear e e2 e3 tok h hL hT hts hsent hok hk0 c0 c3 c4 c5 c6 c7
      go_enter Try.func15, Try.ntmps15
      go_wp2
      go_ret3
      exact H0.out
    · have t1 : tk < 0 := by omega
      clear e e2 e3 tok h hL hT hts hsent hok hk0 c0 c3 c4 c5 c6 c7 t0
      go_enter Try.func15, Try.ntmps15
      go_wp2
      go_ret3
      exact H0.out
theorem Try.info3 : (Try.prog.info? 3).map (fun i => (i.zero, i.size, i.bytes)) = some (some (.int .i64 0), 1, 8) := by kernel_rfl
/-- append(append(T{}, x...), u) -/
theorem two_app (sl e : TypeId) (i : TypeInfo) (z : Value) (bytes : Nat) (ht : Try.prog.underlying sl = some (.slice e)) (hi : Try.prog.info? e = some i) (hz : i.zero = some z) (hsize : i.size = 1) (hby : i.bytes = bytes) (hzs : z.cells.size = 1) (hbt : bytes ≤ 16)
    (W : World) {G : Nat → Prop} {vx : Value} {us : List Value} (hv : View G W vx us) (h1 : ∀ u ∈ us, u.oneCell' = true) (hl : us.length ≤ 8) (u : Value) (hu : u.oneCell' = true) :
    ∃ q1 n1 c1 A2, (Builtin.append_ #[sl, sl] sl #[.slice (some ⟨W.heap.size, 0, none⟩) 0 0, vx]).run Try.prog (W.alloc (.cells #[] e)) = .ok (.slice q1 n1 c1) A2 ∧
      ∃ q2 c2 A4, (Builtin.append_ #[sl, sl] sl #[.slice q1 n1 c1, .slice (some ⟨A2.heap.size, 0, none⟩) 1 1]).run Try.prog (A2.alloc (.cells #[u] e)) = .ok (.slice q2 (us.length + 1) c2) A4 ∧
        A4.ownsRow W.heap.size e 1 (.slice q2 (us.length + 1) c2) (us.length + 1) (us ++ [u]) ∧ Below W.heap.size W A4 := by
  have hm : (0 + us.length) * bytes ≤ 8 * 16 := Nat.mul_le_mul (by omega) hbt
  have hm2 : (us.length + [u].length) * bytes ≤ 9 * 16 := Nat.mul_le_mul (by simp; omega) hbt
  have hb1 : Below W.heap.size W (W.alloc (.cells #[] e)) := (Below.refl _ W).alloc (Nat.le_refl _) _
  have hn1 := block_new W (.cells #[] e)
  have ho : (W.alloc (.cells #[] e)).ownsRow W.heap.size e 1 (.slice (some ⟨W.heap.size, 0, none⟩) 0 0) 0 [] := ⟨rfl, .inr ⟨W.heap.size, 0, #[], rfl, Nat.le_refl _, hn1, Nat.le_refl _, Nat.zero_le _, rfl, rfl⟩⟩
  obtain ⟨q1, c1, A2, r1, o1, g1, k1⟩ := app_view sl e i z bytes ht hi hz hsize hby hzs ho (hv.keep hb1.size fun k hk _ => hb1.block k hk) h1 (by omega) (by unfold maxLen; omega) hb1.size
  rw [Nat.zero_add, List.nil_append] at o1
  have hb2 : Below W.heap.size W A2 := hb1.grown g1 hb1.size (fun k e => by have := Option.some.inj (show some W.heap.size = some k from e); omega)
  have hb3 : Below W.heap.size W (A2.alloc (.cells #[u] e)) := hb2.alloc hb2.size _
  have hn3 := block_new A2 (.cells #[u] e)
  have o1' := own_below o1 (show Below A2.heap.size A2 (A2.alloc (.cells #[u] e)) from (Below.refl _ A2).alloc (Nat.le_refl _) _)
  have hv2 : View (fun _ => True) (A2.alloc (.cells #[u] e)) (.slice (some ⟨A2.heap.size, 0, none⟩) 1 1) [u] := .inr ⟨A2.heap.size, 0, 1, rfl, Nat.le_refl _, trivial, by rw [World.size_alloc]; omega, fun j x hx => by
    rw [Nat.zero_add, cell_of_row _ _ _ _ _ _ hn3, ← hx]; exact (List.getElem?_toArray ..)⟩
  rw [Nat.zero_add] at r1
  obtain ⟨q2, c2, A4, r2, o2, g2, k2⟩ := app_view sl e i z bytes ht hi hz hsize hby hzs o1' hv2 (by intro x hx; simp at hx; subst hx; exact hu) (by omega) (by unfold maxLen; simp; omega) hb3.size
  exact ⟨q1, us.length, c1, A2, r1, q2, c2, A4, r2, o2, hb3.grown g2 hb3.size (fun k e => (own_ty o1' k e).2)⟩
def appT (t : Po) (m : ByteArray) : Po := { t with l := t.l ++ [m] }
set_option maxHeartbeats 4000000 in
theorem rsend_any (W : World) (G : Nat → Prop) (c : Cf) (r : Nat) (t : Po) (h : IsR W G c r t) (hG : ¬ G r) (hok : t.ok) (hlo : t.lost < 4611686018427387904) (m : ByteArray) (tk : Int) :
    Calls Try.prog 13 #[.pointer (some ⟨r, 0, none⟩), .string m, .int .i64 tk] W (RefP W G c r (.int .i64 (sendE t m tk)) (sendS t m tk)) := by
  obtain ⟨qL, cL, qT, cT, c0, c3, c4, c5, c6, c7, fz, hL, ts, hT, hts, hsent⟩ := h.cells
  have f5 := fz 5
  have f6 := fz 6
  have f7 := fz 7
  clear fz
  obtain ⟨hk0, hk1, hk2⟩ := h.1
  by_cases tok : okT tk
  · have t0 : 0 ≤ tk := tok.1
    have t1 : tk ≤ 1099511627776 := tok.2
    by_cases b : t.size < (m.size : Int)
    · have e : sendE t m tk = 141 := by unfold sendE; rw [if_pos tok, if_pos b]
      have e2 : sendS t m tk = t := by unfold sendS; rw [if_neg (by rw [e]; decide)]
      have b2 : c.size < (m.size : Int) := by omega
      rw [e2, e]
      have H0 : Hid (RefP W G c r (.int .i64 141) t (.returned (.int .i64 141)) W) := Lib.hid (h.same (Below.refl _ _))
      clear e e2 tok b h hL hT hts hsent hok hk0 hk1 hk2 c0 c4 c5 c6 c7 hlo
      go_enter Try.func13, Try.ntmps13
      go_wp2
      go_ret
      exact H0.out
    · have e : sendE t m tk = 0 := by unfold sendE; rw [if_pos tok, if_neg b]
      have b2 : ¬ c.size < (m.size : Int) := by omega
      have e2 : sendS t m tk = (if t.kind = 0 then { t with l := [m], sent := tk } else if t.l.length = t.dep then { t with lost := t.lost + 1 } else { t with l := t.l ++ [m] }) := by unfold sendS; rw [if_pos e]
      rw [e2, e]
      clear e e2 tok b
      by_cases z : t.kind = 0
      · rw [if_pos z]
        have kI : (c.kind == 0) = true := by rw [hk0, z]; rfl
        have H0 : Hid (∀ W', W'.heap.size = W.heap.size + 2 → W'.os = W.os → W'.tape = W.tape → W'.output = W.output → (∀ k, k < W.heap.size → k ≠ r → W'.heap[k]? = W.heap[k]?) → W'.heap[W.heap.size]? = some (.cells #[.string m] 9 (0, 0)) → W'.heap[W.heap.size + 1]? = some (.cells #[.int .i64 tk] 3 (0, 0)) →
            W'.heap[r]? = some (.cells #[.int .i64 c.kind, .int .i64 c.frm, .int .i64 c.to, .int .i64 c.size, .int .i64 c.dep, .slice (some ⟨W.heap.size, 0, none⟩) 1 1, .slice (some ⟨W.heap.size + 1, 0, none⟩) 1 1, .int .i64 (t.lost : Int)] 48 (0, 0)) → RefP W G c r (.int .i64 0) { t with l := [m], sent := tk } (.returned (.int .i64 0)) W') := Lib.hid fun W' hs s1 s2 s3 hk n1 n2 hr => by
          refine ⟨rfl, ⟨h.1, _, _, hr, .inr ⟨W.heap.size, 0, 1, rfl, Nat.le_refl _, .inr ⟨Nat.le_refl _, by omega⟩, by omega, fun j u hu => ?_⟩, [tk], .inr ⟨W.heap.size + 1, 0, 1, rfl, Nat.le_refl _, .inr ⟨by omega, by omega⟩, by omega, fun j u hu => ?_⟩, rfl, fun _ _ => rfl⟩, s1, s2, s3, by omega, fun k h1 h2 => hk k h1 h2⟩
          · rw [Nat.zero_add, cell_of_row _ _ _ _ _ _ n1, ← hu]; exact (List.getElem?_toArray ..)
          · rw [Nat.zero_add, cell_of_row _ _ _ _ _ _ n2, ← hu]; exact (List.getElem?_toArray ..)
        have HR : Hid (∃ vL vT, W.heap[r]? = some (.cells #[.int .i64 c.kind, .int .i64 c.frm, .int .i64 c.to, .int .i64 c.size, .int .i64 c.dep, vL, vT, .int .i64 (t.lost : Int)] 48 (0, 0))) := Lib.hid (by obtain ⟨_, vL, vT, h1, _⟩ := h; exact ⟨vL, vT, h1⟩)
        have hlt := h.ltr
        clear h hL hT hts hsent hok hk0 hk1 hk2 c4 hlo z
        go_enter Try.func13, Try.ntmps13
        go_wp2
        go_ret
        obtain ⟨vL, vT, hr⟩ := HR.out
        have hs : ((W.setCell ⟨r, 5, none⟩ (.slice (some ⟨W.heap.size, 0, none⟩) 1 1)).setCell ⟨r, 6, none⟩ (.slice (some ⟨W.heap.size + 1, 0, none⟩) 1 1)).heap.size = W.heap.size := by simp [World.setCell]
        have hA := block_setCell (w := W.setCell ⟨r, 5, none⟩ (.slice (some ⟨W.heap.size, 0, none⟩) 1 1)) (o := 6) (u := .slice (some ⟨W.heap.size + 1, 0, none⟩) 1 1) (block_setCell (o := 5) (u := .slice (some ⟨W.heap.size, 0, none⟩) 1 1) hr)
        have hO : ∀ k, k ≠ r → ((W.setCell ⟨r, 5, none⟩ (.slice (some ⟨W.heap.size, 0, none⟩) 1 1)).setCell ⟨r, 6, none⟩ (.slice (some ⟨W.heap.size + 1, 0, none⟩) 1 1)).heap[k]? = W.heap[k]? := fun k hk => (block_setCell_other (x := ⟨r, 6, none⟩) hk).trans (block_setCell_other (x := ⟨r, 5, none⟩) hk)
        have o1 : ((W.setCell ⟨r, 5, none⟩ (.slice (some ⟨W.heap.size, 0, none⟩) 1 1)).setCell ⟨r, 6, none⟩ (.slice (some ⟨W.heap.size + 1, 0, none⟩) 1 1)).os = W.os := rfl
        have o2 : ((W.setCell ⟨r, 5, none⟩ (.slice (some ⟨W.heap.size, 0, none⟩) 1 1)).setCell ⟨r, 6, none⟩ (.slice (some ⟨W.heap.size + 1, 0, none⟩) 1 1)).tape = W.tape := rfl
        have o3 : ((W.setCell ⟨r, 5, none⟩ (.slice (some ⟨W.heap.size, 0, none⟩) 1 1)).setCell ⟨r, 6, none⟩ (.slice (some ⟨W.heap.size + 1, 0, none⟩) 1 1)).output = W.output := rfl
        generalize (W.setCell ⟨r, 5, none⟩ (.slice (some ⟨W.heap.size, 0, none⟩) 1 1)).setCell ⟨r, 6, none⟩ (.slice (some ⟨W.heap.size + 1, 0, none⟩) 1 1) = A at *
        have n1 := block_alloc (block_new A (.cells #[.string m] 9)) (.cells #[.int .i64 tk] 3)
        have n2 := block_new (A.alloc (.cells #[.string m] 9)) (.cells #[.int .i64 tk] 3)
        rw [World.size_alloc] at n2
        rw [hs] at n1 n2
        exact H0.out _ (by rw [World.size_alloc, World.size_alloc, hs]) o1 o2 o3 (fun k hk hne => (((Below.refl A.heap.size A).alloc (Nat.le_refl _) _).alloc (by rw [World.size_alloc]; omega) _ |>.block k (by omega)).trans (hO k hne)) n1 n2 (block_alloc (block_alloc hA _) _)
      · rw [if_neg z]
        have kI : (c.kind == 0) = false := by rw [hk0]; simpa using z
        by_cases full : t.l.length = t.dep
        · rw [if_pos full]
          have fI : c.dep ≤ ((t.l.length : Nat) : Int) := by omega
          have q1 : IntKind.i64.wrap ((t.lost : Int) + 1) = (t.lost : Int) + 1 := IntWalk.i64_in _ (by omega)
          have q2 : wrap64 ((t.lost : Int) + 1) = (t.lost : Int) + 1 := w64 (by omega)
          have H0 : Hid (∀ k, RefP W G c r (.int .i64 0) { t with lost := t.lost + 1 } (.returned (.int .i64 0)) ((W.drewN k).setCell ⟨r, 7, none⟩ (.int .i64 ((t.lost : Int) + 1)))) := Lib.hid fun k => by
            obtain ⟨h0, vL, vT, h1, h2, ts, h3, h4⟩ := h
            have hch : Ch (fun k => k = r) W ((W.drewN k).setCell ⟨r, 7, none⟩ (.int .i64 ((t.lost : Int) + 1))) := Ch.setCell (F := fun k => k = r) (Ch.of_below (below_drewN (Below.refl _ W) k)) (p := r) rfl _ _
            have kp : ∀ j, j < W.heap.size → G j → ((W.drewN k).setCell ⟨r, 7, none⟩ (.int .i64 ((t.lost : Int) + 1))).heap[j]? = W.heap[j]? := fun j hj hg => hch.block j hj (fun e => hG (by have e : j = r := e; rw [← e]; exact hg))
            exact ⟨rfl, ⟨h0, _, _, block_setCell (w := W.drewN k) h1, (h2.keep hch.size kp).mono fun _ _ hk => .inl hk, ts, (h3.keep hch.size kp).mono fun _ _ hk => .inl hk, h4⟩, hch⟩
          clear h hL hT hts hsent hok hk0 hk1 hk2 hlo z full
          generalize t.l.length = n at *
          go_enter Try.func13, Try.ntmps13
          go_wp2
          go_quiet (fail)
          go_wp2
          go_ret
          exact H0.out _
        · rw [if_neg full]
          have hlen := hok.len
          have hd8 := hok.dep.2
          have fI : ((t.l.length : Nat) : Int) < c.dep := by omega
          obtain ⟨i9, hi9, hz9, hs9, hb9⟩ := info_parts Try.info9
          obtain ⟨i3, hi3, hz3, hs3, hb3⟩ := info_parts Try.info3
          have x5 : ∀ k, ((W.drewN k).alloc (.cells #[] 9)).cell? ⟨r, 5, none⟩ = some (.slice qL t.l.length cL) := fun k => by
            obtain ⟨_, vL, vT, h1, _⟩ := h
            have := block_alloc (w := W.drewN k) h1 (.cells #[] 9)
            rw [cell_of_row _ _ _ _ _ _ this]
            rw [cell_of_row _ _ _ _ _ _ h1] at c5
            exact c5
          have HK : Hid (∀ k, ∃ q1 n1 c1 A2, (Builtin.append_ #[45, 45] 45 #[.slice (some ⟨W.heap.size, 0, none⟩) 0 0, .slice qL t.l.length cL]).run Try.prog ((W.drewN k).alloc (.cells #[] 9)) = .ok (.slice q1 n1 c1) A2 ∧
              ∃ q2 n2 c2 A4, (Builtin.append_ #[45, 45] 45 #[.slice q1 n1 c1, .slice (some ⟨A2.heap.size, 0, none⟩) 1 1]).run Try.prog (A2.alloc (.cells #[.string m] 9)) = .ok (.slice q2 n2 c2) A4 ∧ (A4.cell? ⟨r, 5, none⟩ = some (.slice qL t.l.length cL) ∧ ((A4.setCell ⟨r, 5, none⟩ (.slice q2 n2 c2)).alloc (.cells #[] 3)).cell? ⟨r, 6, none⟩ = some (.slice qT t.l.length cT) ∧ A4.frozen? ⟨r, 5, none⟩ = false ∧ A4.frozen? ⟨r, 6, none⟩ = false) ∧
              Hid (∃ q3 n3 c3 A7, (Builtin.append_ #[46, 46] 46 #[.slice (some ⟨A4.heap.size, 0, none⟩) 0 0, .slice qT t.l.length cT]).run Try.prog ((A4.setCell ⟨r, 5, none⟩ (.slice q2 n2 c2)).alloc (.cells #[] 3)) = .ok (.slice q3 n3 c3) A7 ∧
                ∃ q4 n4 c4 A9, (Builtin.append_ #[46, 46] 46 #[.slice q3 n3 c3, .slice (some ⟨A7.heap.size, 0, none⟩) 1 1]).run Try.prog (A7.alloc (.cells #[.int .i64 tk] 3)) = .ok (.slice q4 n4 c4) A9 ∧ (A9.cell? ⟨r, 6, none⟩ = some (.slice qT t.l.length cT) ∧ A9.frozen? ⟨r, 6, none⟩ = false) ∧
                Hid (RefP W G c r (.int .i64 0) { t with l := t.l ++ [m] } (.returned (.int .i64 0)) (A9.setCell ⟨r, 6, none⟩ (.slice q4 n4 c4))))) := Lib.hid fun k => by
            obtain ⟨h0, vL, vT, h1, _⟩ := h
            have eL : vL = .slice qL t.l.length cL := by rw [cell_of_row _ _ _ _ _ _ h1] at c5; injection c5
            have eT : vT = .slice qT t.l.length cT := by rw [cell_of_row _ _ _ _ _ _ h1] at c6; injection c6
            subst eL; subst eT
            have hbd : Below W.heap.size W (W.drewN k) := below_drewN (Below.refl _ _) k
            obtain ⟨q1, n1, c1, A2, r1, q2, c2, A4, r2, o2, hb4⟩ := two_app 45 9 i9 _ 16 Try.underlying45 hi9 hz9 hs9 hb9 rfl (by omega) (W.drewN k) (hL.keep hbd.size fun j hj _ => hbd.block j hj) (by intro u hu; obtain ⟨x, _, rfl⟩ := List.mem_map.1 hu; rfl) (by rw [List.length_map]; omega) (.string m) rfl
            have hb4' : Below W.heap.size W A4 := hbd.trans hb4
            have hr4 : A4.heap[r]? = _ := (hb4'.block r (block_lt h1)).trans h1
            refine ⟨q1, n1, c1, A2, r1, q2, _, c2, A4, r2, ⟨by rw [cell_of_row _ _ _ _ _ _ hr4]; rfl, by rw [cell_of_row _ _ _ _ _ _ (block_alloc (block_setCell hr4) _)]; rfl, block_free hr4, block_free hr4⟩, Lib.hid ?_⟩
            obtain ⟨A5, hA5⟩ : ∃ A5, A5 = A4.setCell ⟨r, 5, none⟩ (.slice q2 ((t.l.map Value.string).length + 1) c2) := ⟨_, rfl⟩
            have hr5 := block_setCell (o := 5) (u := .slice q2 ((t.l.map Value.string).length + 1) c2) hr4
            rw [← hA5] at hr5
            have hs5 : A5.heap.size = A4.heap.size := by rw [hA5]; simp [World.setCell]
            have hch5 : Ch (fun j => j = r) W A5 := by rw [hA5]; exact Ch.setCell (F := fun k => k = r) (Ch.of_below hb4') (p := r) rfl _ _
            have kp5 : ∀ j, j < W.heap.size → G j → A5.heap[j]? = W.heap[j]? := fun j hj hg => hch5.block j hj (fun e => hG (by have e : j = r := e; rw [← e]; exact hg))
            have o5 : A5.ownsRow W.heap.size 9 1 (.slice q2 ((t.l.map Value.string).length + 1) c2) ((t.l.map Value.string).length + 1) (t.l.map .string ++ [.string m]) := own_keep o2 fun j hj ht => by rw [hA5]; exact block_setCell_other (x := ⟨r, 5, none⟩) (TyB.ne ht ⟨_, _, hr4⟩ (by decide))
            rw [← hA5, ← hs5]
            obtain ⟨q3, n3, c3', A7, r3, q4, c4', A9, r4, o4, hb9'⟩ := two_app 46 3 i3 _ 8 Try.underlying46 hi3 hz3 hs3 hb3 rfl (by omega) A5 (hT.keep hch5.size kp5) (by intro u hu; obtain ⟨x, _, rfl⟩ := List.mem_map.1 hu; rfl) (by rw [List.length_map]; omega) (.int .i64 tk) rfl
            have hr9 : A9.heap[r]? = _ := (hb9'.block r (block_lt hr5)).trans hr5
            refine ⟨q3, n3, c3', A7, r3, q4, _, c4', A9, r4, ⟨by rw [cell_of_row _ _ _ _ _ _ hr9]; rfl, block_free hr9⟩, Lib.hid ?_⟩
            have hch9 : Ch (fun j => j = r) W A9 := hch5.then_below hb9'
            have hs10 : (A9.setCell ⟨r, 6, none⟩ (.slice q4 ((ts.map iV).length + 1) c4')).heap.size = A9.heap.size := by simp [World.setCell]
            have ob5 := own_below o5 hb9'
            refine ⟨rfl, ⟨h0, _, _, block_setCell hr9, ?_, ts ++ [tk], ?_, by simp [hts], fun e => absurd e z⟩, Ch.setCell hch9 (p := r) rfl _ _⟩
            · rw [List.map_append]
              refine View.of_own (own_keep ob5 fun j hj ht => block_setCell_other (x := ⟨r, 6, none⟩) (TyB.ne ht ⟨_, _, hr9⟩ (by decide))) fun j hj => .inr ⟨(own_ty ob5 j hj).2, by rw [hs10]; exact (own_ty ob5 j hj).1.lt⟩
            · rw [List.map_append]
              refine View.of_own (own_keep o4 fun j hj ht => block_setCell_other (x := ⟨r, 6, none⟩) (TyB.ne ht ⟨_, _, hr9⟩ (by decide))) fun j hj => .inr ⟨Nat.le_trans hch5.size (own_ty o4 j hj).2, by rw [hs10]; exact (own_ty o4 j hj).1.lt⟩
          clear h hL hT hts hsent hok hk0 hk1 hk2 hlo z full hlen hd8 hi9 hz9 hs9 hb9 hi3 hz3 hs3 hb3
          generalize t.l.length = n at *
          go_enter Try.func13, Try.ntmps13
          go_wp2
          go_quiet (fail)
          go_wp2_with (first
            | (at_builtin; obtain ⟨q1, n1, c1, A2, r1, HX⟩ := HK.out _; refine wpList_app rfl (.tmp 56) (.tmp 60) 45 rfl _ _ _ _ rfl rfl r1 ?_; have HX2 := Lib.hid HX; clear HX)
            | (at_builtin; obtain ⟨q2, n2, c2, A4, r2, ⟨y5, y6, g5, g6⟩, HY⟩ := HX2.out; refine wpList_app rfl (.tmp 61) (.tmp 63) 45 rfl _ _ _ _ rfl rfl r2 ?_)
            | (at_builtin; obtain ⟨q3, n3, c3, A7, r3, HZ⟩ := HY.out; refine wpList_app rfl (.tmp 68) (.tmp 72) 46 rfl _ _ _ _ rfl rfl r3 ?_; have HZ2 := Lib.hid HZ; clear HZ)
            | (at_builtin; obtain ⟨q4, n4, c4, A9, r4, ⟨z6, h6⟩, HW⟩ := HZ2.out; refine wpList_app rfl (.tmp 73) (.tmp 75) 46 rfl _ _ _ _ rfl rfl r4 ?_))
          go_ret
          exact HW.out
  · have e : sendE t m tk = 1 := by unfold sendE; rw [if_neg tok]
    have e2 : sendS t m tk = t := by unfold sendS; rw [if_neg (by rw [e]; decide)]
    rw [e2, e]
    have H0 : Hid (RefP W G c r (.int .i64 1) t (.returned (.int .i64 1)) W) := Lib.hid (h.same (Below.refl _ _))
    by_cases t0 : 0 ≤ tk
    · have t1 : 1099511627776 < tk := by unfold okT at tok; omega
      clear e e2 tok h hL hT hts hsent hok hk0 hk1 hk2 c0 c3 c4 c5 c6 c7 hlo
      go_enter Try.func13, Try.ntmps13
      go_wp2
      go_ret
      exact H0.out
    · have t1 : tk < 0 := by omega
      clear e e2 tok h hL hT hts hsent hok hk0 hk1 hk2 c0 c3 c4 c5 c6 c7 hlo t0
      go_enter Try.func13, Try.ntmps13
      go_wp2
      go_ret
      exact H0.out
end Go.Proofs.Ytolcdfkkdhkpfaa
