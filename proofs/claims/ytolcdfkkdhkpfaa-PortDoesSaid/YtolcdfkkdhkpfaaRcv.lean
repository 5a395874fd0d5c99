/- A port's calls Receive, Clear, Len, Clone, and New: what they return, and what they leave. No conditions. -/
import Derived.Test.YtolcdfkkdhkpfaaSnd
namespace Go.Proofs.Ytolcdfkkdhkpfaa
open Go.RowKit Go.Maps Go.Sort Go.Lib
set_option linter.unusedVariables false
set_option linter.unusedSimpArgs false

def recvE (s : Po) (t : Int) : Int := if okT t then (if s.l = [] then 142 else 0) else 1
def recvM (s : Po) (t : Int) : ByteArray := if recvE s t = 0 then s.l.getD 0 ByteArray.empty else ByteArray.empty
def recvN (s : Po) (t : Int) : Int := if recvE s t = 0 then (if s.kind = 0 then max (t - s.sent) 0 else (s.lost : Int)) else 0
def recvS (s : Po) (t : Int) : Po := if recvE s t = 0 ∧ s.kind ≠ 0 then { s with l := s.l.tail, lost := 0 } else s
def recvV (s : Po) (t : Int) : Value := .tuple #[.string (recvM s t), .int .i64 (recvN s t), .int .i64 (recvE s t)]
theorem IsP.news {w w' : World} {F : Nat → Prop} {p : Nat} {s : Po} (h : IsP w' F p s) : IsP w' (nw F w w') p s := h.mono fun k _ hk => .inl hk
theorem ch_nw {F : Nat → Prop} {W w w' : World} (z : Ch F w w') : Ch (nw F W w) w w' := ⟨z.os, z.tape, z.output, z.size, fun k h1 h2 => z.block k h1 (fun x => h2 (.inl x))⟩
set_option maxHeartbeats 2000000 in
theorem recv_any (w : World) (F : Nat → Prop) (p : Nat) (s : Po) (h : IsP w F p s) (t : Int) (hk : s.ok) :
    Calls Try.prog 14 #[.pointer (some ⟨p, 0, none⟩), .int .i64 t] w (TakP w F p (recvV s t) (recvS s t)) := by
  have k25 := isTick_any w t
  obtain ⟨q, cap, c0, c1, c2, c3, _⟩ := h.cells
  by_cases a : okT t
  · rw [decide_eq_true a] at k25
    by_cases b : s.l = []
    · have e : recvE s t = 142 := by unfold recvE; rw [if_pos a, if_pos b]
      have e2 : recvS s t = s := by unfold recvS; rw [e, if_neg (by simp)]
      have e3 : recvV s t = .tuple #[.string ByteArray.empty, .int .i64 0, .int .i64 142] := by unfold recvV recvM recvN; rw [e, if_neg (by decide), if_neg (by decide)]
      have H0 : Hid (TakP w F p (.tuple #[.string ByteArray.empty, .int .i64 0, .int .i64 142]) s (.returned (.tuple #[.string ByteArray.empty, .int .i64 0, .int .i64 142])) w) := Lib.hid ⟨rfl, h.news, Ch.refl _ _⟩
      rw [e2, e3]
      have nl : s.l.length = 0 := by rw [b]; rfl
      rw [nl] at c3
      clear e e2 e3 a b h c0 c1 c2 nl
      go_enter Try.func14, Try.ntmps14
      go_wp2_with (go_at_call 25; refine k25.mono ?_; rintro e _ ⟨rfl, rfl⟩)
      go_ret3
      exact H0.out
    · obtain ⟨m, l, hl⟩ : ∃ m l, s.l = m :: l := by
        cases hh : s.l with
        | nil => exact absurd hh b
        | cons m l => exact ⟨m, l, rfl⟩
      have e : recvE s t = 0 := by unfold recvE; rw [if_pos a, if_neg b]
      have K26 : Hid (Calls Try.prog 26 #[.pointer (some ⟨p, 0, none⟩)] w fun e w' => e = .returned (deeV2 p s.kind) ∧ Below w.heap.size w w') := Lib.hid (deeds_any w F p s h)
      have eM : recvM s t = m := by unfold recvM; rw [if_pos e, hl]; rfl
      have nl : (((s.l.length : Nat) : Int) == 0) = false := by rw [hl]; simp; omega
      by_cases z : s.kind = 0
      · have e2 : recvS s t = s := by unfold recvS; rw [if_neg (fun x => x.2 z)]
        have e3 : recvV s t = .tuple #[.string m, .int .i64 (max (t - s.sent) 0), .int .i64 0] := by unfold recvV recvN; rw [eM, e, if_pos rfl, if_pos z]
        rw [e2, e3]
        have d2 : deeV2 p s.kind = .agg #[.func (.func 29) #[.pointer (some ⟨p, 0, none⟩)] #[], .func (.func 30) #[.pointer (some ⟨p, 0, none⟩)] #[]] := by unfold deeV2; rw [if_pos z]
        rw [d2] at K26
        have hfd := field1 29 30 p
        generalize hX : max (t - s.sent) 0 = X at *
        have K : Hid (∀ W, Below w.heap.size w W → Calls Try.prog 30 #[.pointer (some ⟨p, 0, none⟩), .int .i64 t] W fun e w' => e = .returned (.tuple #[.string m, .int .i64 X]) ∧ Hid (TakP w F p (.tuple #[.string m, .int .i64 X, .int .i64 0]) s (.returned (.tuple #[.string m, .int .i64 X, .int .i64 0])) w')) := Lib.hid fun W hW => by
          have := show_any W F p s (h.below hW) m l hl t a hk.sent
          rw [hX] at this
          exact this.mono fun e w' ⟨x, y⟩ => ⟨x, Lib.hid ⟨rfl, (h.below (hW.trans (y.mono hW.size))).news, Ch.of_below (hW.trans (y.mono hW.size))⟩⟩
        clear e e2 e3 eM hX hl b h hk d2 a c0 c1 c2 z
        go_enter Try.func14, Try.ntmps14
        go_wp2_with (first
          | (go_at_call 25; refine k25.mono ?_; rintro e _ ⟨rfl, rfl⟩)
          | (go_at_call 26; refine K26.out.mono ?_; rintro e w1 ⟨rfl, hb⟩; have H1 := Lib.hid hb; clear hb)
          | (go_at_call 30; refine (K.out _ H1.out).mono ?_; rintro e w3 ⟨rfl, H3⟩))
        go_ret3
        exact H3.out
      · have e2 : recvS s t = { s with l := l, lost := 0 } := by unfold recvS; rw [if_pos ⟨e, z⟩, hl]; rfl
        have e3 : recvV s t = .tuple #[.string m, .int .i64 (s.lost : Int), .int .i64 0] := by unfold recvV recvN; rw [eM, e, if_pos rfl, if_neg z]
        rw [e2, e3]
        have d2 : deeV2 p s.kind = .agg #[.func (.func 31) #[.pointer (some ⟨p, 0, none⟩)] #[], .func (.func 32) #[.pointer (some ⟨p, 0, none⟩)] #[]] := by unfold deeV2; rw [if_neg z]
        rw [d2] at K26
        have hfd := field1 31 32 p
        have K : Hid (∀ W, Below w.heap.size w W → Calls Try.prog 32 #[.pointer (some ⟨p, 0, none⟩), .int .i64 t] W fun e w' => e = .returned (.tuple #[.string m, .int .i64 (s.lost : Int)]) ∧ Hid (TakP w F p (.tuple #[.string m, .int .i64 (s.lost : Int), .int .i64 0]) { s with l := l, lost := 0 } (.returned (.tuple #[.string m, .int .i64 (s.lost : Int), .int .i64 0])) w')) := Lib.hid fun W hW => (take_any W F p s (h.below hW) m l hl t).mono fun e w' ⟨x, y, z⟩ => ⟨x, Lib.hid ⟨rfl, y.mono fun k _ hk => nw_trans hW.size z.size k (hk.imp .inl id), ch_trans (Ch.of_below hW) (ch_nw z)⟩⟩
        generalize (s.lost : Int) = X at *
        clear e e2 e3 eM hl b h hk d2 a c0 c1 c2 z
        go_enter Try.func14, Try.ntmps14
        go_wp2_with (first
          | (go_at_call 25; refine k25.mono ?_; rintro e _ ⟨rfl, rfl⟩)
          | (go_at_call 26; refine K26.out.mono ?_; rintro e w1 ⟨rfl, hb⟩; have H1 := Lib.hid hb; clear hb)
          | (go_at_call 32; refine (K.out _ H1.out).mono ?_; rintro e w3 ⟨rfl, H3⟩))
        go_ret3
        exact H3.out
  · have e : recvE s t = 1 := by unfold recvE; rw [if_neg a]
    have e2 : recvS s t = s := by unfold recvS; rw [e, if_neg (by simp)]
    have e3 : recvV s t = .tuple #[.string ByteArray.empty, .int .i64 0, .int .i64 1] := by unfold recvV recvM recvN; rw [e, if_neg (by decide), if_neg (by decide)]
    have H0 : Hid (TakP w F p (.tuple #[.string ByteArray.empty, .int .i64 0, .int .i64 1]) s (.returned (.tuple #[.string ByteArray.empty, .int .i64 0, .int .i64 1])) w) := Lib.hid ⟨rfl, h.news, Ch.refl _ _⟩
    rw [decide_eq_false a] at k25
    rw [e2, e3]
    clear e e2 e3 a h c0 c1 c2 c3
    go_enter Try.func14, Try.ntmps14
    go_wp2_with (go_at_call 25; refine k25.mono ?_; rintro e _ ⟨rfl, rfl⟩)
    go_ret3
    exact H0.out
theorem len_any (w : World) (F : Nat → Prop) (p : Nat) (s : Po) (h : IsP w F p s) : Calls Try.prog 20 #[.pointer (some ⟨p, 0, none⟩)] w fun e w' => e = .returned (.int .i64 (s.l.length : Int)) ∧ w = w' := by
  obtain ⟨q, cap, c0, c1, c2, c3, _⟩ := h.cells
  clear h
  generalize s.l.length = n at *
  go_enter Try.func20, Try.ntmps20
  go_wp2
  go_ret
  exact ⟨rfl, rfl⟩
def clearS (s : Po) : Po := { s with l := [], sent := 0, lost := 0 }
theorem clear_any (w : World) (F : Nat → Prop) (p : Nat) (s : Po) (h : IsP w F p s) : Calls Try.prog 16 #[.pointer (some ⟨p, 0, none⟩)] w (LayP w F p (clearS s)) := by
  obtain ⟨q, cap, c0, c1, c2, c3, c4, c5, fz, _⟩ := h.cells
  have f3 := fz 3
  have f4 := fz 4
  have f5 := fz 5
  clear fz
  have H : Hid (LayP w F p (clearS s) (.returned (.tuple #[])) (((w.setCell ⟨p, 3, none⟩ (.slice none 0 0)).setCell ⟨p, 4, none⟩ (.int .i64 0)).setCell ⟨p, 5, none⟩ (.int .i64 0))) := Lib.hid (by
    obtain ⟨hF, v, h1, h2, h3⟩ := h
    exact ⟨rfl, ⟨.inl hF, .slice none 0 0, block_setCell (block_setCell (block_setCell h1)), ⟨rfl, .inl ⟨rfl, rfl⟩⟩, fun j hj => by cases hj⟩, ((((Ch.refl F w).setCell hF _ _).setCell hF _ _).setCell hF _ _)⟩)
  clear h
  go_enter Try.func16, Try.ntmps16
  go_wp2
  go_end0
  exact H.out
theorem slclone_any (w : World) (q : Option Addr) (cap : Nat) (l : List ByteArray) (h : w.ownsRow 0 9 1 (.slice q l.length cap) l.length (l.map .string)) (hl : l.length ≤ 8) :
    Calls Try.prog 28 #[.slice q l.length cap] w fun e w' => ∃ v', e = .returned v' ∧ w'.ownsRow w.heap.size 9 1 v' l.length (l.map .string) ∧ Below w.heap.size w w' := by
  rcases h.2 with ⟨e1, e2⟩ | ⟨g, c, cur, e1, h1, hg, _, _, hcs, htk⟩
  · injection e1 with e1 e3 e4
    subst e1
    refine (Try.slices_Clone_string_nil _ _ w).mono ?_
    rintro e w' ⟨rfl, rfl⟩
    exact ⟨_, rfl, ⟨h.1, .inl ⟨rfl, e2⟩⟩, Below.refl _ _⟩
  · injection e1 with e1 e3 e4
    subst e1
    refine (Try.slices_Clone_string g 0 l.length cap l w (Nat.le_refl _) (by omega) (fun j hj => ?_)).mono ?_
    · rw [Nat.zero_add, cell_of_row _ _ _ _ _ _ hg]
      have := str_get l j hj
      rw [← htk, List.getElem?_take, if_pos (by omega), Array.getElem?_toList] at this
      exact this
    · rintro e w' ⟨v', rfl, h1, _, h2⟩
      rw [List.take_length] at h1
      exact ⟨v', rfl, h1, h2⟩
def newB (w w' : World) : Nat → Prop := fun k => w.heap.size ≤ k ∧ k < w'.heap.size
/-- what makes a new port leaves -/
def NewP (w : World) (s : Po) (f : Value → Value) (e : Ending) (w' : World) : Prop := ∃ p, e = .returned (f (.pointer (some ⟨p, 0, none⟩))) ∧ IsP w' (newB w w') p s ∧ Below w.heap.size w w'
set_option maxHeartbeats 2000000 in
theorem clone_any (w : World) (F : Nat → Prop) (p : Nat) (s : Po) (h : IsP w F p s) (hl : s.l.length ≤ 8) : Calls Try.prog 18 #[.pointer (some ⟨p, 0, none⟩)] w (NewP w s id) := by
  obtain ⟨q, cap, c0, c1, c2, c3, c4, c5, fz, ho, _⟩ := h.cells
  have hlt := h.ltp
  obtain ⟨W, hW⟩ : ∃ W, W = w.alloc (.cells #[.int .i64 s.kind, .int .i64 s.size, .int .i64 (s.dep : Int), .slice q s.l.length cap, .int .i64 s.sent, .int .i64 (s.lost : Int)] 52) := ⟨_, rfl⟩
  have hb : Below w.heap.size w W := by rw [hW]; exact (Below.refl _ w).alloc (Nat.le_refl _) _
  have hn : W.heap[w.heap.size]? = some (.cells #[.int .i64 s.kind, .int .i64 s.size, .int .i64 (s.dep : Int), .slice q s.l.length cap, .int .i64 s.sent, .int .i64 (s.lost : Int)] 52 (0, 0)) := by rw [hW]; exact block_new _ _
  have hs : W.heap.size = w.heap.size + 1 := by rw [hW, World.size_alloc]
  have K : Hid (Calls Try.prog 28 #[.slice q s.l.length cap] W fun e w' => ∃ q' n' cap', e = .returned (.slice q' n' cap') ∧ w'.cell? ⟨w.heap.size, 3, none⟩ = some (.slice q s.l.length cap) ∧ w'.frozen? ⟨w.heap.size, 3, none⟩ = false ∧ Hid (NewP w s id (.returned (.pointer (some ⟨w.heap.size, 0, none⟩))) (w'.setCell ⟨w.heap.size, 3, none⟩ (.slice q' n' cap')))) := Lib.hid (by
    refine (slclone_any W q cap s.l (own_below ho hb) hl).mono ?_
    rintro e w' ⟨v', rfl, h1, h2⟩
    obtain ⟨q', cap', rfl, _⟩ := own_slice h1
    have hp := (h2.block _ (block_lt hn)).trans hn
    refine ⟨q', _, cap', rfl, by rw [cell_of_row _ _ _ _ _ _ hp]; rfl, block_free hp, Lib.hid ⟨w.heap.size, rfl, ⟨⟨Nat.le_refl _, by simp [World.setCell]; exact block_lt hp⟩, _, block_setCell hp, own_base (own_keep h1 fun j hj ht => block_setCell_other (x := ⟨w.heap.size, 3, none⟩) (TyB.ne ht ⟨_, _, hp⟩ (by decide))) (fun _ _ => Nat.zero_le _), fun j hj => ?_⟩, (hb.trans (h2.mono hb.size)).setCell (p := ⟨w.heap.size, 3, none⟩) (Nat.le_refl _) _⟩⟩
    obtain ⟨t1, t2⟩ := own_ty h1 j hj
    exact ⟨by omega, by simp [World.setCell]; exact t1.lt⟩)
  rw [hW] at K
  clear h hl fz ho hW hb hn hs
  generalize s.l.length = n at *
  go_enter Try.func18, Try.ntmps18
  go_wp2_with (go_at_call 28; refine K.out.mono ?_; rintro e w3 ⟨q', n', cap', rfl, x3, y3, H3⟩)
  go_ret
  exact H3.out
def newS (c : Cf) : Po := ⟨c.kind, c.size, c.dep.toNat, [], 0, 0⟩
set_option maxHeartbeats 2000000 in
theorem new_no (w : World) (c : Cf) (h : ¬ okC c) : Calls Try.prog 7 #[c.agg] w fun e w' => e = .returned (.tuple #[.pointer none, .int .i64 140]) ∧ Below w.heap.size w w' := by
  obtain ⟨W, hW⟩ : ∃ W, W = w.alloc (.cells #[.int .i64 c.kind, .int .i64 c.frm, .int .i64 c.to, .int .i64 c.size, .int .i64 c.dep] 23) := ⟨_, rfl⟩
  have hb : Below w.heap.size w W := by rw [hW]; exact (Below.refl _ w).alloc (Nat.le_refl _) _
  have K := Lib.hid (check_any W c)
  rw [show chkE c = 140 from if_neg h] at K
  have HB := Lib.hid hb
  rw [hW] at K HB
  clear h hW hb
  unfold Cf.agg at *
  go_enter Try.func7, Try.ntmps7
  go_wp2_with (go_at_call 9; refine K.out.mono ?_; rintro e w3 ⟨rfl, hb⟩; have H := Lib.hid (HB.out.trans (hb.mono HB.out.size)); clear hb)
  go_ret2
  exact ⟨rfl, H.out⟩
set_option maxHeartbeats 2000000 in
theorem new_yes (w : World) (c : Cf) (h : okC c) : Calls Try.prog 7 #[c.agg] w (NewP w (newS c) fun v => .tuple #[v, .int .i64 0]) := by
  obtain ⟨W, hW⟩ : ∃ W, W = w.alloc (.cells #[.int .i64 c.kind, .int .i64 c.frm, .int .i64 c.to, .int .i64 c.size, .int .i64 c.dep] 23) := ⟨_, rfl⟩
  have hb : Below w.heap.size w W := by rw [hW]; exact (Below.refl _ w).alloc (Nat.le_refl _) _
  have hn : W.heap[w.heap.size]? = some (.cells #[.int .i64 c.kind, .int .i64 c.frm, .int .i64 c.to, .int .i64 c.size, .int .i64 c.dep] 23 (0, 0)) := by rw [hW]; exact block_new _ _
  have k := check_any W c
  rw [show chkE c = 0 from if_pos h] at k
  have hd : ((c.dep.toNat : Nat) : Int) = c.dep := by unfold okC at h; omega
  have K : Hid (Calls Try.prog 9 #[c.agg] W fun e w' => e = .returned (.int .i64 0) ∧ w'.cell? ⟨w.heap.size, 0, none⟩ = some (.int .i64 c.kind) ∧ w'.cell? ⟨w.heap.size, 3, none⟩ = some (.int .i64 c.size) ∧ w'.cell? ⟨w.heap.size, 4, none⟩ = some (.int .i64 c.dep) ∧
      Hid (NewP w (newS c) (fun v => .tuple #[v, .int .i64 0]) (.returned (.tuple #[.pointer (some ⟨w'.heap.size, 0, none⟩), .int .i64 0])) (w'.alloc (.cells #[.int .i64 c.kind, .int .i64 c.size, .int .i64 c.dep, .slice none 0 0, .int .i64 0, .int .i64 0] 52)))) := Lib.hid (k.mono fun e w' ⟨x, y⟩ => by
    have hp := (y.block _ (block_lt hn)).trans hn
    have hbw := hb.trans (y.mono hb.size)
    refine ⟨x, by rw [cell_of_row _ _ _ _ _ _ hp]; rfl, by rw [cell_of_row _ _ _ _ _ _ hp]; rfl, by rw [cell_of_row _ _ _ _ _ _ hp]; rfl, Lib.hid ⟨_, rfl, ⟨⟨hbw.size, by rw [World.size_alloc]; omega⟩, .slice none 0 0, ?_, ⟨rfl, .inl ⟨rfl, rfl⟩⟩, fun j hj => by cases hj⟩, hbw.alloc hbw.size _⟩⟩
    have := block_new w' (.cells #[.int .i64 c.kind, .int .i64 c.size, .int .i64 c.dep, .slice none 0 0, .int .i64 0, .int .i64 0] 52)
    rw [← hd] at this
    rw [← hd]
    exact this)
  rw [hW] at K
  clear h hW hb hn k hd
  unfold Cf.agg at *
  go_enter Try.func7, Try.ntmps7
  go_wp2_with (go_at_call 9; refine K.out.mono ?_; rintro e w3 ⟨rfl, x0, x3, x4, H3⟩)
  go_ret2
  exact H3.out
end Go.Proofs.Ytolcdfkkdhkpfaa
