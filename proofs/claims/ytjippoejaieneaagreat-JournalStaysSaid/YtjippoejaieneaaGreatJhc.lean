/- The head that counts; the greatest stamp. Conditions: ints are within 64 bits. -/
import Derived.Test.YtjippoejaieneaaGreatJrh
namespace Go.Proofs.YtjippoejaieneaaGreat
open Go.RowKit Go.Maps
set_option maxRecDepth 20000
set_option linter.unusedVariables false

theorem rd_same {S : St} {V V' : Dv} (h1 : V'.first = V.first) (h2 : V'.cnt = V.cnt) (i : Int) : rdE S V' i = rdE S V i ∧ rdD S V' i = rdD S V i ∧ rdN S V' i = rdN S V i := by
  have e1 : refE S V' i = refE S V i := by unfold refE; rw [h2]
  have e2 : sct S V' i = sct S V i := by unfold sct; rw [h1]
  unfold rdE rdD rdN
  rw [e1, e2]
  exact ⟨rfl, rfl, rfl⟩
theorem rh_same {S : St} {V V' : Dv} (h1 : V'.first = V.first) (h2 : V'.cnt = V.cnt) (i : Nat) : rhN S V' i = rhN S V i ∧ rhF S V' i = rhF S V i := by
  obtain ⟨a, b, c⟩ := rd_same (S := S) h1 h2 (i : Int)
  unfold rhN rhF rhOk
  rw [a, b, c]
  exact ⟨rfl, rfl⟩
/-- the head that counts, of the first k blocks: its number and its first -/
def hb (S : St) (V : Dv) : Nat → Int × Int
  | 0 => (0, 0)
  | k + 1 => if (hb S V k).1 < rhN S V k then (rhN S V k, rhF S V k) else hb S V k
def vk (S : St) (V : Dv) : Nat → Dv
  | 0 => V
  | k + 1 => rdV S (vk S V k) (k : Int)
theorem rdV_mis (S : St) (V : Dv) (i : Int) : (rdV S V i).mis ≤ V.mis + 1 := by
  unfold rdV
  have h : misOf V i ≤ V.mis + 1 := by unfold misOf; split <;> omega
  split
  · omega
  · split <;> exact h
theorem vk_cnt (S : St) (V : Dv) : ∀ k, (vk S V k).first = V.first ∧ (vk S V k).cnt = V.cnt ∧ (vk S V k).most = V.most ∧ (vk S V k).mis ≤ V.mis + k
  | 0 => ⟨rfl, rfl, rfl, Nat.le_refl _⟩
  | k + 1 => by
    obtain ⟨a, b, c, d⟩ := vk_cnt S V k
    obtain ⟨a', b', c'⟩ := rdV_cnt S (vk S V k) (k : Int)
    have := rdV_mis S (vk S V k) (k : Int)
    exact ⟨a'.trans a, b'.trans b, c'.trans c, by show (rdV S (vk S V k) (k : Int)).mis ≤ _; omega⟩
set_option maxHeartbeats 4000000 in
theorem headC_any (F : Nat → Prop) (j x p : Nat) (mv : Value) (S : St) (V : Dv) (J : Jn) (w : World) (h : JX w F j x p mv S V J) (hd : S.dead = false) (hm : V.mis < 4611686018427387000) :
    Calls Tryz.prog 104 #[.pointer (some ⟨j, 0, none⟩)] w fun e w' => e = .returned (.tuple #[.int .i64 (hb S V 2).1, .int .i64 (hb S V 2).2]) ∧ TX F w w' j x p mv S (vk S V 2) J := by
  have HX := Lib.hid h
  have KR : Hid (∀ (k : Nat) F1 W, k < 2 → JX W F1 j x p mv S (vk S V k) J → Calls Tryz.prog 129 #[.pointer (some ⟨j, 0, none⟩), .int .i64 (k : Int)] W fun e w' => e = .returned (.tuple #[.int .i64 (rhN S V k), .int .i64 (rhF S V k)]) ∧ TX F1 W w' j x p mv S (vk S V (k + 1)) J) := fun k F1 W hk h1 => by
    obtain ⟨a, b, c, d⟩ := vk_cnt S V k
    obtain ⟨e1, e2⟩ := rh_same (S := S) a b k
    have := readHead_any F1 j x p mv S (vk S V k) J k W h1 hd hk (by omega)
    rw [e1, e2] at this
    exact this
  clear h hd hm
  go_enter Tryz.func104, Tryz.ntmps104
  go_wp2_with fail
  go_loopw [2, 3, 7] (fun a b i W => ∃ k : Nat, k ≤ 2 ∧ i = .int .i64 (k : Int) ∧ a = .int .i64 (hb S V k).1 ∧ b = .int .i64 (hb S V k).2 ∧ TX F w W j x p mv S (vk S V k) J) (fun _ _ i _ => 2 - (RowKit.intOf i).toNat)
  case atStart => exact ⟨0, by omega, rfl, rfl, rfl, TX.refl HX.out (Below.refl _ w)⟩
  case round =>
    obtain ⟨k, hk, rfl, rfl, rfl, ht⟩ := hrel
    by_cases hlt : k < 2
    · have hki : (k : Int) < 2 := by omega
      obtain ⟨F2, hx2, g2, c2⟩ := ht
      have K1 := Lib.hid (KR.out k F2 wr hlt hx2)
      have HT := Lib.hid (And.intro g2 c2)
      have HB : Hid (hb S V (k + 1) = if (hb S V k).1 < rhN S V k then (rhN S V k, rhF S V k) else hb S V k) := rfl
      clear hx2 g2 c2
      generalize rhN S V k = N at *
      generalize rhF S V k = f at *
      generalize hb S V k = H at *
      by_cases q : H.1 < N
      · have HB2 : Hid (hb S V (k + 1) = (N, f)) := by unfold Hid; rw [HB.out, if_pos q]
        clear HB
        go_wp2_with (go_at_call 129; (with_reducible refine K1.out.mono ?_); rintro e w2 ⟨rfl, t2⟩; have HT2 := Lib.hid t2; clear t2)
        go_roundw
        case rel => exact ⟨k + 1, by omega, by go_num, by rw [HB2.out], by rw [HB2.out], TX.trans HT.out.1 HT.out.2 HT2.out⟩
        case measure => simp only [RowKit.intOf]; omega
      · have HB2 : Hid (hb S V (k + 1) = H) := by unfold Hid; rw [HB.out, if_neg q]
        clear HB
        go_wp2_with (go_at_call 129; (with_reducible refine K1.out.mono ?_); rintro e w2 ⟨rfl, t2⟩; have HT2 := Lib.hid t2; clear t2)
        go_roundw
        case rel => exact ⟨k + 1, by omega, by go_num, by rw [HB2.out], by rw [HB2.out], TX.trans HT.out.1 HT.out.2 HT2.out⟩
        case measure => simp only [RowKit.intOf]; omega
    · have hk2 : k = 2 := by omega
      subst hk2
      go_wp2
      go_ret2
      exact ⟨rfl, ht⟩
/-- the greatest stamp of the first k blocks behind the heads -/
def stMax (S : St) (V : Dv) : Nat → Int
  | 0 => 0
  | k + 1 => max (stMax S V k) (stN S V ((k : Int) + 2))
set_option maxHeartbeats 4000000 in
theorem greatest_any (F : Nat → Prop) (j x p : Nat) (mv : Value) (S : St) (V : Dv) (J : Jn) (w : World) (h : JX w F j x p mv S V J) (ha : 2 ≤ J.area ∧ J.area ≤ 4096) (hst : ∀ k : Nat, k < J.area - 2 → stE S V ((k : Int) + 2) = 0) :
    Calls Tryz.prog 105 #[.pointer (some ⟨j, 0, none⟩)] w fun e w' => e = .returned (.tuple #[.int .i64 (stMax S V (J.area - 2)), .int .i64 0]) ∧ Below w.heap.size w w' := by
  have HX := Lib.hid h
  have KS : Hid (∀ (k : Nat) W, k < J.area - 2 → Below w.heap.size w W → Calls Tryz.prog 70 #[.pointer (some ⟨x, 0, none⟩), .int .i64 ((k : Int) + 2)] W fun e w' => e = .returned (.tuple #[.int .i64 (stN S V ((k : Int) + 2)), .int .i64 0]) ∧ Below W.heap.size W w') := fun k W hk hb => by
    have := stamp_any F x p S V ((k : Int) + 2) W (HX.out.below hb).ext HX.out.good.fit
    rwa [hst k hk] at this
  have HC : Hid (∀ W, Below w.heap.size w W → W.cell? ⟨j, 0, none⟩ = some (.pointer (some ⟨x, 0, none⟩)) ∧ W.cell? ⟨j, 1, none⟩ = some (.int .i64 (J.area : Int))) := fun W hb => by
    obtain ⟨c0, c1, _⟩ := (HX.out.below hb).cells
    exact ⟨c0, c1⟩
  clear h hst
  obtain ⟨A, hA⟩ : ∃ A, A = J.area - 2 := ⟨_, rfl⟩
  have hA2 : J.area = A + 2 := by omega
  rw [← hA] at KS ⊢
  rw [hA2] at HC
  have hA4 : A ≤ 4096 := by omega
  clear hA hA2 ha
  go_enter Tryz.func105, Tryz.ntmps105
  go_wp2_with fail
  go_loopw [4, 5] (fun a i W => ∃ k : Nat, k ≤ A ∧ i = .int .i64 ((k : Int) + 2) ∧ a = .int .i64 (stMax S V k) ∧ Below w.heap.size w W) (fun _ i _ => A + 2 - (RowKit.intOf i).toNat)
  case atStart => exact ⟨0, Nat.zero_le _, rfl, rfl, Below.refl _ w⟩
  case round =>
    obtain ⟨k, hk, rfl, rfl, hb⟩ := hrel
    obtain ⟨c0, c1⟩ := HC.out wr hb
    by_cases hlt : k < A
    · have hki : (k : Int) + 2 < ((A + 2 : Nat) : Int) := by omega
      have K1 := Lib.hid (KS.out k wr hlt hb)
      have HB : Hid (stMax S V (k + 1) = max (stMax S V k) (stN S V ((k : Int) + 2))) := rfl
      have HBB := Lib.hid hb
      generalize stN S V ((k : Int) + 2) = N at *
      generalize stMax S V k = M at *
      clear hb
      go_wp2_with (go_at_call 70; (with_reducible refine K1.out.mono ?_); rintro e w2 ⟨rfl, b2⟩)
      go_roundw
      case rel => exact ⟨k + 1, by omega, by congr 1, by rw [HB.out], HBB.out.trans (b2.mono HBB.out.size)⟩
      case measure => simp only [RowKit.intOf]; omega
    · have hki : ¬ (k : Int) + 2 < ((A + 2 : Nat) : Int) := by omega
      have hkA : k = A := by omega
      subst hkA
      go_wp2
      go_ret2
      exact ⟨rfl, hb⟩
end Go.Proofs.YtjippoejaieneaaGreat
