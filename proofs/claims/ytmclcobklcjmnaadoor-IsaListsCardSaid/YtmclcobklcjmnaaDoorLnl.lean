/- The iterator over a text's lines at work: each line is handed over with its end, the rest lies in the iterator's box. Conditions: the text is as long as one may be. -/
import Derived.RangeFuncNested
import Derived.RangeFuncBound
import Derived.RangeFuncCalls
import Derived.RangeFuncLeaves
import Derived.Shelf.Abstract
import Derived.Shelf.RegionOpen
import Derived.OwnWalkIn
import Derived.TacticsInMore
import Derived.LoopNIn
import Derived.LoopIn
import Derived.Test.YtmclcobklcjmnaaDoorBxs
namespace Go.Proofs.YtmclcobklcjmnaaDoor
open Go.RowKit Go.Maps Go.Shelf
set_option linter.unusedVariables false
set_option linter.unusedSimpArgs false
attribute [local go_sem] Oper.semAt_some

/-- the first line of a text, with its end -/
def headB (t : Bs) : Bs := if (cutB 10 t).2.2 = true then (cutB 10 t).1 ++ [10] else (cutB 10 t).1
def tailB (t : Bs) : Bs := (cutB 10 t).2.1
/-- the lines ahead of t, and t's, are the text's -/
structure Ahead (text : Bs) (pre : List Bs) (t : Bs) : Prop where
  all : linesB text = pre.map (fun x => (cutB 10 x).1) ++ linesB t
  len : t.length ≤ text.length
theorem Ahead.step {text : Bs} {pre : List Bs} {t : Bs} (h : Ahead text pre t) (ht : t ≠ []) : Ahead text (pre ++ [t]) (tailB t) where
  all := by rw [h.all, lines_cut t ht, List.map_append, List.append_assoc]; rfl
  len := by have := cut_rest_lt 10 t ht; have := h.len; unfold tailB; omega
theorem Ahead.done {text : Bs} {pre : List Bs} (h : Ahead text pre []) : pre.map (fun x => (cutB 10 x).1) = linesB text := by rw [h.all]; simp [linesB]
theorem cut_whole (c : UInt8) : ∀ (l : Bs), (cutB c l).2.2 = true → l = (cutB c l).1 ++ c :: (cutB c l).2.1
  | [], h => by cases h
  | x :: l, h => by
    by_cases e : x = c
    · subst e; rw [cut_end]; rfl
    · rw [cut_in e] at h ⊢
      dsimp only at h ⊢
      rw [List.cons_append, ← cut_whole c l h]
theorem str_len0 {t : Bs} : (str t).size = t.length := str_size t
def restAt (b : Nat) (wr : World) : Nat := match wr.cell? ⟨b, 0, none⟩ with
  | some (.string s) => s.size
  | _ => 0
set_option maxRecDepth 100000 in
set_option maxHeartbeats 4000000 in
theorem lines_at (n : Nat) (hn : 1 ≤ n) (l b : Nat) (text : Bs) (hlen : text.length ≤ 100000) (J Jx : List Bs → World → Prop) (W : World) (hJ : AbidesFrom W.heap.size J)
    (hJb : ∀ pre W u v, W.heap[b]? = some (.cells #[u] 9) → J pre W → J pre (W.setCell ⟨b, 0, none⟩ v))
    (hY : ∀ pre t W, t ≠ [] → Ahead text pre t → J pre W → YieldAt Fence.wide (n - 1) Tryd.prog l #[.string (str (headB t))] W fun e W' =>
      (e = .returned (.bool true) ∧ J (pre ++ [t]) W' ∧ W.heap.size ≤ W'.heap.size ∧ W'.heap[b]? = W.heap[b]?) ∨ (e = .returned (.bool false) ∧ Jx (pre ++ [t]) W'))
    (hb : W.heap[b]? = some (.cells #[.string (str text)] 9)) (h0 : J [] W) :
    CallsIn Fence.wide n Tryd.prog 43 #[.func (.yield l) #[] #[], .pointer (some ⟨b, 0, none⟩)] W fun e W' => (∃ v, e = .returned v) ∧
      ((∃ pre, pre.map (fun x => (cutB 10 x).1) = linesB text ∧ J pre W') ∨ (∃ pre, Jx pre W')) := by
  have H := Lib.hid (And.intro hJb (And.intro hY hlen))
  have HJ := Lib.hid hJ
  clear hJb hY hlen hJ
  obtain ⟨s0, hs0⟩ : ∃ s0, s0 = W.heap.size := ⟨_, rfl⟩
  have HS := Lib.hid hs0
  clear hs0
  refine callsIn_of_wp Tryd.func43 rfl trivial ?_ rfl
  simp only [Tryd.ntmps43, List.size_toArray, List.length_cons, List.length_nil, Nat.reduceAdd, Nat.reduceSub, Array.replicate_succ, Array.replicate_zero, List.push_toArray, List.append_toArray, List.nil_append, List.cons_append]
  gi_wp2
  gi_loopw [] (fun wr => ∃ (pre : List Bs) (t : Bs), Ahead text pre t ∧ J pre wr ∧ wr.heap[b]? = some (.cells #[.string (str t)] 9) ∧ s0 ≤ wr.heap.size) (fun wr => restAt b wr)
  case atStart => exact ⟨[], text, ⟨rfl, Nat.le_refl _⟩, h0, hb, by have := HS.out; omega⟩
  case round =>
    clear hb h0
    obtain ⟨pre, t, hah, hj, hb, hsz⟩ := hrel
    by_cases ht : t = []
    · subst ht
      have c0 : wr.cell? ⟨b, 0, none⟩ = some (.string ByteArray.empty) := cell_of_row wr b 0 _ _ _ hb
      have HA := Lib.hid (And.intro hah hj)
      clear hah hj hb
      gi_wp2
      go_end0
      exact ⟨⟨_, rfl⟩, .inl ⟨pre, HA.out.1.done, HA.out.2⟩⟩
    · have c0 : wr.cell? ⟨b, 0, none⟩ = some (.string (str t)) := cell_of_row wr b 0 _ _ _ hb
      have hlt : b < wr.heap.size := block_lt hb
      have hpos : 0 < (str t).size := by rw [str_size]; cases t with | nil => exact absurd rfl ht | cons x l => simp
      have hln : (str t).size ≤ 100000 := by rw [str_size]; have := hah.len; have := H.out.2.2; omega
      have K := Lib.hid (Tryd.strings_IndexByte (str t) 10)
      rw [str_list] at K
      have f0 : wr.frozen? ⟨b, 0, none⟩ = false := by simp [World.frozen?, hb]
      have HA := Lib.hid (And.intro hah (And.intro hj (And.intro hb (And.intro hsz (And.intro ht hlt)))))
      obtain ⟨n1, hn1⟩ : ∃ n1, n1 = (str t).size := ⟨_, rfl⟩
      have hstep : ∀ W1 u, s0 ≤ W1.heap.size → wr.grownBy W1 none → J pre (W1.setCell ⟨b, 0, none⟩ u) := fun W1 u hs hg => H.out.1 pre W1 _ u ((hg.block b hlt (fun e => by cases e)).trans hb) (HJ.out _ _ _ none hj hg (fun r e => by cases e))
      have HSt := Lib.hid hstep
      have hYt : ∀ W1, J pre W1 → YieldAt Fence.wide (n - 1) Tryd.prog l #[.string (str (headB t))] W1 fun e W' =>
        (e = .returned (.bool true) ∧ J (pre ++ [t]) W' ∧ W1.heap.size ≤ W'.heap.size ∧ W'.heap[b]? = W1.heap[b]?) ∨ (e = .returned (.bool false) ∧ Jx (pre ++ [t]) W') := fun W1 h1 => H.out.2.1 pre t W1 ht hah h1
      have HY := Lib.hid hYt
      have hsz' : s0 ≤ wr.heap.size := hsz
      clear hah hj hb hsz hYt hstep
      have hdone : Hid (∀ (W1 : World) (u : Bs), u = tailB t → s0 ≤ W1.heap.size → wr.grownBy W1 none → ∀ W3 : World, (W1.setCell ⟨b, 0, none⟩ (.string (str u))).heap.size ≤ W3.heap.size → W3.heap[b]? = (W1.setCell ⟨b, 0, none⟩ (.string (str u))).heap[b]? → J (pre ++ [t]) W3 →
          (∃ (pre : List Bs) (t : Bs), Ahead text pre t ∧ J pre W3 ∧ W3.heap[b]? = some (.cells #[.string (str t)] 9) ∧ s0 ≤ W3.heap.size) ∧ restAt b W3 < (str t).size) := Lib.hid fun W1 u hu hs hg W3 h3 hb3 hj3 => by
        have e1 : W3.heap[b]? = some (.cells #[.string (str u)] 9) := by
          rw [hb3]
          exact set1 ((hg.block b hlt (fun e => by cases e)).trans HA.out.2.2.1) _
        refine ⟨⟨pre ++ [t], u, hu ▸ HA.out.1.step ht, hj3, e1, ?_⟩, ?_⟩
        · have : (W1.setCell ⟨b, 0, none⟩ (.string (str u))).heap.size = W1.heap.size := by simp [World.setCell]
          omega
        · have e2 : W3.cell? ⟨b, 0, none⟩ = some (.string (str u)) := cell_of_row W3 b 0 _ _ _ e1
          unfold restAt
          rw [e2]
          show (str u).size < _
          rw [str_size, str_size, hu]
          exact cut_rest_lt 10 t ht
      have hmeas : restAt b wr = (str t).size := by unfold restAt; rw [c0]
      have HMs := Lib.hid hmeas
      clear hlt hmeas
      rcases ixB t 10 with ⟨h1, h2⟩ | ⟨i, h1, h2, h3⟩
      · rw [show (10 : Int).toNat.toUInt8 = (10 : UInt8) from rfl, h1] at K
        have hhd : headB t = t := by unfold headB; rw [h2]; rfl
        have htl : [] = tailB t := by unfold tailB; rw [h2]
        obtain ⟨fn, tmps, assign, body, hy, hR⟩ := HY.out (wr.setCell ⟨b, 0, none⟩ (.string (str []))) (HSt.out wr _ hsz' ⟨rfl, rfl, rfl, Nat.le_refl _, fun _ _ _ => rfl⟩)
        have HD := Lib.hid (hdone.out wr [] htl hsz' ⟨rfl, rfl, rfl, Nat.le_refl _, fun _ _ _ => rfl⟩)
        rw [hhd] at hy
        clear h1 h2 hhd htl hdone
        rw [show (str [] : ByteArray) = { data := #[] } from rfl] at hy hR HD
        gi_wp2_with (refine ⟨trivial, ?_⟩; gi_at_call 44; refine (callsIn_wide.2 (K.out _)).mono ?_; rintro e w1 ⟨rfl, rfl⟩)
        refine hR.mono ?_
        rintro e W3 (⟨rfl, hJ3, hk3, hb3⟩ | ⟨rfl, hJx3⟩)
        · gi_wp2
          go_roundw
          case rel => exact (HD.out W3 hk3 hb3 hJ3).1
          case measure => rw [HMs.out]; exact (HD.out W3 hk3 hb3 hJ3).2
        · gi_wp2
          refine bodyPost_ret (results_none rfl _ _ _) rfl ?_
          exact ⟨⟨_, rfl⟩, .inr ⟨_, hJx3⟩⟩
      · rw [show (10 : Int).toNat.toUInt8 = (10 : UInt8) from rfl, h1] at K
        have hi : i < (str t).size := by rw [str_size]; exact h2
        have hhd : str (headB t) = (str t).extract 0 (i + 1) := by
          rw [ext_take _ _ (by omega), str_list]
          unfold headB
          rw [h3]
          dsimp only
          rw [if_pos rfl]
          have hcut := cut_whole 10 t (by rw [h3])
          rw [h3] at hcut
          dsimp only at hcut
          have hl : (t.take i).length = i := by rw [List.length_take]; omega
          have e : (t.take i ++ 10 :: t.drop (i + 1)).take (i + 1) = t.take i ++ [10] := by
            rw [List.take_append, hl, List.take_of_length_le (by omega), show i + 1 - i = 1 from by omega]
            rfl
          rw [← hcut] at e
          rw [e]
        have htl : (str t).extract (i + 1) (str t).size = str (tailB t) := by
          rw [ext_drop, str_list]
          unfold tailB
          rw [h3]
        have q1 : IntKind.i64.wrap ((i : Int) + 1) = (i : Int) + 1 := IntWalk.i64_in _ (by omega)
        have q2 : (0 : Int) ≤ (i : Int) + 1 := by omega
        have q3 : (i : Int) + 1 ≤ ((str t).size : Int) := by omega
        have q4 : ((i : Int) + 1).toNat = i + 1 := by omega
        have q5 : (0 : Int) ≤ (i : Int) := by omega
        obtain ⟨fn, tmps, assign, body, hy, hR⟩ := HY.out (wr.drew.setCell ⟨b, 0, none⟩ (.string (str (tailB t)))) (HSt.out wr.drew _ hsz' ⟨rfl, rfl, rfl, Nat.le_refl _, fun _ _ _ => rfl⟩)
        have HD := Lib.hid (hdone.out wr.drew (tailB t) rfl hsz' ⟨rfl, rfl, rfl, Nat.le_refl _, fun _ _ _ => rfl⟩)
        rw [hhd] at hy
        have ew : wr.drew.setCell ⟨b, 0, none⟩ (.string (str (tailB t))) = (wr.setCell ⟨b, 0, none⟩ (.string (str (tailB t)))).drew := rfl
        rw [ew] at hy hR HD
        clear h1 h2 h3 hhd hdone ew hi
        gi_wp2_with (refine ⟨trivial, ?_⟩; gi_at_call 44; refine (callsIn_wide.2 (K.out _)).mono ?_; rintro e w1 ⟨rfl, rfl⟩)
        gi_region
        gi_wp2
        refine hR.mono ?_
        rintro e W3 (⟨rfl, hJ3, hk3, hb3⟩ | ⟨rfl, hJx3⟩)
        · gi_wp2
          go_roundw
          case rel => exact (HD.out W3 hk3 hb3 hJ3).1
          case measure => rw [HMs.out]; exact (HD.out W3 hk3 hb3 hJ3).2
        · gi_wp2
          refine bodyPost_ret (results_none rfl _ _ _) rfl ?_
          exact ⟨⟨_, rfl⟩, .inr ⟨_, hJx3⟩⟩
end Go.Proofs.YtmclcobklcjmnaaDoor
