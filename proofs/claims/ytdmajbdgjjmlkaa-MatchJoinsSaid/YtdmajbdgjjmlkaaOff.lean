/- The machine of a pattern; the law's helpers; are two rows of pairs the same: what the calls return; nothing that was there turns. Conditions: what is handed in lies in memory. -/
import Derived.Test.YtdmajbdgjjmlkaaNew
import Derived.Test.YtdmajbdgjjmlkaaHts
import Derived.Deep.Onto
namespace Go.Proofs.Ytdmajbdgjjmlkaa
open Go.RowKit
set_option linter.unusedVariables false
set_option linter.unusedSimpArgs false

theorem IsM.mono {n0 n1 p : Nat} {M : Mac} {w : World} (h : IsM n1 p M w) (hn : n0 ≤ n1) : IsM n0 p M w := by
  obtain ⟨h1, v, hc, ho⟩ := h
  exact ⟨by omega, v, hc, ho.mono hn⟩
theorem NewPost.mono {t : Rx} {w w1 : World} {e : Ending} {w' : World} (h : NewPost t w1 e w') (hb : Below w.heap.size w w1) : NewPost t w e w' := by
  obtain ⟨h1, h2⟩ := h
  refine ⟨hb.trans (h1.mono hb.size), h2.imp id fun ⟨a, p, b, c, d⟩ => ⟨a, p, b, c.mono hb.size, d⟩⟩
set_option maxRecDepth 100000 in
set_option maxHeartbeats 4000000 in
theorem of_no (s : ByteArray) (w : World) (n : Int) (hp : parseS s.data.toList = (none, n)) (hn : n ≠ 0) : Calls Try.prog 23 #[.string s] w fun e w' => e = .returned (.tuple #[.pointer none, .int .i64 n]) ∧ Below w.heap.size w w' := by
  have KP := parse_any s w
  unfold PostP at KP
  rw [hp] at KP
  unfold zero8 at KP
  have HP := Lib.hid KP
  have hnb : (n == 0) = false := by simpa using hn
  have HB : Hid (∀ w1 o, Below w.heap.size w w1 → Below w.heap.size w (w1.alloc o)) := Lib.hid fun w1 o hb => below_trans hb (below_new w1 o)
  clear KP hp hn
  go_enter Try.func23, Try.ntmps23
  go_wp2_with (go_at_call 40; (with_reducible refine HP.out.mono ?_); rintro e w1 ⟨hb1, rfl⟩; have HB1 := Lib.hid hb1; clear hb1)
  exact bodyPost_ret (v := .tuple #[.pointer none, .int .i64 n]) (by simp [results, Try.results23, go_sem]) rfl ⟨rfl, HB.out _ _ HB1.out⟩
set_option maxRecDepth 100000 in
set_option maxHeartbeats 4000000 in
theorem of_yes (s : ByteArray) (w : World) (t : Rx) (hp : parseS s.data.toList = (some t, 0)) (hok : okR t) : Calls Try.prog 23 #[.string s] w (NewPost t w) := by
  have KP := parse_any s w
  unfold PostP at KP
  rw [hp] at KP
  have KN := fun (w1 : World) (v : Value) (hb : Below w.heap.size w w1) (hl : LiesL (w.heap.size ≤ ·) w1 v t.list) (o : Obj) => (new_any (w1.alloc o) t v (hl.stay (below_new w1 o)) hok).mono fun e w' h => NewPost.mono h (below_trans hb (below_new w1 o))
  have KP2 : Calls Try.prog 40 #[.string s] w fun e w' => Below w.heap.size w w' ∧ ∃ ao cap, e = .returned (.tuple #[t.val (.slice ao t.list.length cap), .int .i64 0]) ∧ LiesL (w.heap.size ≤ ·) w' (.slice ao t.list.length cap) t.list := KP.mono fun e w' h => by
    obtain ⟨hb, v, he, hl⟩ := h
    obtain ⟨ao, cap, rfl⟩ := hl.value
    exact ⟨hb, ao, cap, he, hl⟩
  have RR : Hid (∀ e w', NewPost t w e w' → (∃ po n, e = .returned (.tuple #[.pointer po, .int .i64 n]) ∧ NewPost t w (.returned (.tuple #[.pointer po, .int .i64 n])) w')) := Lib.hid fun e w' h => by
    obtain ⟨h1, ⟨h2, rfl⟩ | ⟨h2, p, rfl, h3⟩⟩ := h
    · exact ⟨_, _, rfl, h1, .inl ⟨h2, rfl⟩⟩
    · exact ⟨_, _, rfl, h1, .inr ⟨h2, p, rfl, h3⟩⟩
  obtain ⟨I, hI⟩ : ∃ I : Ending → World → Prop, I = NewPost t w := ⟨_, rfl⟩
  rw [← hI] at KN RR ⊢
  obtain ⟨k, mn, mx, s0, s1, s2, s3, l⟩ := t
  unfold Rx.val Rx.cells cellsX at KP2 KN
  dsimp only [Rx.list] at KP2 KN
  have HP := Lib.hid KP2
  have HN := Lib.hid KN
  clear KP KP2 KN hp hok hI
  go_enter Try.func23, Try.ntmps23
  go_wp2_with (first
    | (go_at_call 40; (with_reducible refine HP.out.mono ?_); rintro e w1 ⟨hb1, ao, cap, rfl, hl1⟩; have KN2 := Lib.hid (HN.out w1 _ hb1 hl1); clear hb1 hl1)
    | (go_at_call 11; (with_reducible refine (KN2.out _).mono ?_); rintro e w2 h2; obtain ⟨po, n, rfl, h3⟩ := RR.out _ _ h2; have H3 := Lib.hid h3; clear h2 h3))
  exact H3.out
/-- what the law's helper returns: no machine, or one -/
def FitsPost (t : Rx) (w : World) (e : Ending) (w' : World) : Prop := Below w.heap.size w w' ∧
  ((checkR t ≠ 0 ∧ e = .returned (.pointer none)) ∨ (checkR t = 0 ∧ ∃ p, e = .returned (.pointer (some ⟨p, 0, none⟩)) ∧ IsM w.heap.size p (macR t) w' ∧ Mok (macR t)))
set_option maxRecDepth 100000 in
set_option maxHeartbeats 4000000 in
theorem fits_any {ok : Nat → Prop} (w : World) (t : Rx) (v : Value) (hl : LiesL ok w v t.list) (hok : okR t) : Calls Try.prog 25 #[t.val v] w (FitsPost t w) := by
  obtain ⟨ao, cap, rfl⟩ := hl.value
  have KN := fun (o : Obj) => (new_any (w.alloc o) t _ (hl.stay (below_new w o)) hok).mono fun e w' h => NewPost.mono h (below_new w o)
  have RR : Hid (∀ e w', NewPost t w e w' → (∃ po n, e = .returned (.tuple #[.pointer po, .int .i64 n]) ∧ FitsPost t w (.returned (.pointer po)) w')) := Lib.hid fun e w' h => by
    obtain ⟨h1, ⟨h2, rfl⟩ | ⟨h2, p, rfl, h3⟩⟩ := h
    · exact ⟨_, _, rfl, h1, .inl ⟨h2, rfl⟩⟩
    · exact ⟨_, _, rfl, h1, .inr ⟨h2, p, rfl, h3⟩⟩
  obtain ⟨I, hI⟩ : ∃ I : Ending → World → Prop, I = NewPost t w := ⟨_, rfl⟩
  obtain ⟨J, hJ⟩ : ∃ J : Ending → World → Prop, J = FitsPost t w := ⟨_, rfl⟩
  rw [← hI] at KN RR
  rw [← hJ] at RR ⊢
  obtain ⟨k, mn, mx, s0, s1, s2, s3, l⟩ := t
  unfold Rx.val Rx.cells cellsX at KN ⊢
  dsimp only [Rx.list] at *
  have HN := Lib.hid KN
  clear KN hok hl hI hJ
  go_enter Try.func25, Try.ntmps25
  go_wp2_with (go_at_call 11; (with_reducible refine (HN.out _).mono ?_); rintro e w2 h2; obtain ⟨po, n, rfl, h3⟩ := RR.out _ _ h2; have H3 := Lib.hid h3; clear h2 h3)
  exact H3.out
/-- is a text, that is not too long, in the language? -/
def Mac.inB (M : Mac) (s : Bs) : Bool := decide (s.length ≤ 256) && M.is s
set_option maxRecDepth 100000 in
set_option maxHeartbeats 4000000 in
theorem in_any (n0 p : Nat) (M : Mac) (w : World) (h : IsM n0 p M w) (hM : Mok M) (s : ByteArray) : Calls Try.prog 26 #[.pointer (some ⟨p, 0, none⟩), .string s] w fun e w' => e = .returned (.bool (M.inB s.data.toList)) ∧ Below w.heap.size w w' := by
  have K := is_any n0 p M w h hM s
  have hlen : s.data.toList.length = s.size := Array.length_toList
  unfold Mac.inB
  rw [hlen]
  by_cases hs : 256 < s.size
  · rw [if_pos hs] at K
    rw [show decide (s.size ≤ 256) = false from decide_eq_false (by omega), Bool.false_and]
    have HK := Lib.hid K
    clear K h hM hs hlen
    go_enter Try.func26, Try.ntmps26
    go_wp2_with (go_at_call 14; (with_reducible refine HK.out.mono ?_); rintro e w1 ⟨rfl, hb⟩)
    go_ret
    exact ⟨rfl, hb⟩
  · rw [if_neg hs] at K
    rw [show decide (s.size ≤ 256) = true from decide_eq_true (by omega), Bool.true_and]
    have HK := Lib.hid K
    clear K h hM hs hlen
    generalize M.is s.data.toList = r at *
    go_enter Try.func26, Try.ntmps26
    cases r <;>
    · go_wp2_with (go_at_call 14; (with_reducible refine HK.out.mono ?_); rintro e w1 ⟨rfl, hb⟩)
      go_ret
      exact ⟨rfl, hb⟩
end Go.Proofs.Ytdmajbdgjjmlkaa
