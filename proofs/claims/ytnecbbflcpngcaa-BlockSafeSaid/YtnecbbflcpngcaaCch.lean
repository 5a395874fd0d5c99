/- The cache's row: where a block stands in it. No conditions. -/
import Derived.Test.YtnecbbflcpngcaaByt
import Derived.Deep.LoopGhost
import Derived.Deep.RegionHeld3
import Derived.Shelf.SlicesQ.Load
namespace Go.Proofs.Ytnecbbflcpngcaa
open Go.RowKit Go.Maps Go.Lib
set_option maxRecDepth 20000
set_option linter.unusedVariables false

structure Bk where
  at' : Nat
  data : Bts
  st : Int
def Bk.cells (b : Bk) : List Value := [.int .i64 (b.at' : Int), .string (ofL b.data), .int .i64 b.st]
def Bk.agg (b : Bk) : Value := .agg #[.int .i64 (b.at' : Int), .string (ofL b.data), .int .i64 b.st]
def rowL (l : List Bk) : List Value := l.flatMap Bk.cells
theorem rowL_cons (b : Bk) (l : List Bk) : rowL (b :: l) = b.cells ++ rowL l := rfl
theorem rowL_append (l m : List Bk) : rowL (l ++ m) = rowL l ++ rowL m := by unfold rowL; rw [List.flatMap_append]
theorem rowL_len (l : List Bk) : (rowL l).length = l.length * 3 := by
  induction l with
  | nil => rfl
  | cons b l ih => rw [rowL_cons, List.length_append, ih]; show 3 + l.length * 3 = (l.length + 1) * 3; omega
theorem rowL_get (l : List Bk) (i j : Nat) (hj : j < 3) (b : Bk) (hi : l[i]? = some b) : (rowL l)[i * 3 + j]? = b.cells[j]? := by
  induction l generalizing i with
  | nil => cases hi
  | cons c l ih =>
    rw [rowL_cons]
    cases i with
    | zero =>
      injection hi with hi
      subst hi
      rw [List.getElem?_append_left (by show 0 * 3 + j < 3; omega)]
      congr 1; omega
    | succ i =>
      rw [List.getElem?_append_right (by show 3 ≤ _; omega)]
      have := ih i hi
      rw [← this]
      congr 1
      show (i + 1) * 3 + j - 3 = _
      omega
theorem rowL_one (l : List Bk) : ∀ u ∈ rowL l, u.oneCell' = true := by
  intro u hu
  unfold rowL at hu
  obtain ⟨b, _, hb⟩ := List.mem_flatMap.1 hu
  unfold Bk.cells at hb
  simp only [List.mem_cons, List.not_mem_nil, or_false] at hb
  rcases hb with rfl | rfl | rfl <;> rfl
/-- the first place at which a block stands; behind them all, if none does -/
def posL (a : Int) : List Bk → Nat
  | [] => 0
  | b :: r => if (b.at' : Int) = a then 0 else posL a r + 1
def posI (a : Int) (l : List Bk) : Int := if posL a l < l.length then (posL a l : Int) else -1
theorem posL_hit (a : Int) : ∀ (l : List Bk) (k : Nat) (b : Bk), l[k]? = some b → (b.at' : Int) = a → (∀ (j : Nat) (c : Bk), j < k → l[j]? = some c → (c.at' : Int) ≠ a) → posL a l = k
  | [], k, b, h, _, _ => by cases h
  | c :: r, 0, b, h, hb, _ => by injection h with h; subst h; unfold posL; rw [if_pos hb]
  | c :: r, k + 1, b, h, hb, hn => by
    unfold posL
    rw [if_neg (hn 0 c (by omega) rfl), posL_hit a r k b h hb (fun j d hj hd => hn (j + 1) d (by omega) hd)]
theorem posL_miss (a : Int) : ∀ (l : List Bk), (∀ (j : Nat) (c : Bk), l[j]? = some c → (c.at' : Int) ≠ a) → posL a l = l.length
  | [], _ => rfl
  | c :: r, hn => by
    unfold posL
    rw [if_neg (hn 0 c rfl), posL_miss a r (fun j d hd => hn (j + 1) d hd)]
    rfl
theorem posI_hit {a : Int} {l : List Bk} {k : Nat} {b : Bk} (h : l[k]? = some b) (hb : (b.at' : Int) = a) (hn : ∀ (j : Nat) (c : Bk), j < k → l[j]? = some c → (c.at' : Int) ≠ a) : posI a l = (k : Int) := by
  have e := posL_hit a l k b h hb hn
  have := (List.getElem?_eq_some_iff.1 h).1
  unfold posI
  rw [e, if_pos this]
theorem posI_miss {a : Int} {l : List Bk} (hn : ∀ (j : Nat) (c : Bk), l[j]? = some c → (c.at' : Int) ≠ a) : posI a l = -1 := by
  unfold posI
  rw [posL_miss a l hn, if_neg (by omega)]
/-- the closure: is the block's place that one? -/
theorem here_any (b : Bk) (a : Int) (bx : Nat) (w : World) (hc : w.cell? ⟨bx, 0, none⟩ = some (.int .i64 a)) :
    Calls Try.prog 103 #[b.agg, .pointer (some ⟨bx, 0, none⟩)] w fun e w' => e = .returned (.bool (decide ((b.at' : Int) = a))) ∧ Below w.heap.size w w' := by
  unfold Bk.agg
  have hc2 := Lib.cell?_alloc_some (.cells #[.int .i64 (b.at' : Int), .string (ofL b.data), .int .i64 b.st] 105) hc
  by_cases q : (b.at' : Int) = a
  · rw [decide_eq_true q]
    subst q
    go_enter Try.func103, Try.ntmps103
    go_wp2
    go_ret
    exact ⟨rfl, (Below.refl _ w).alloc (Nat.le_refl _) _⟩
  · rw [decide_eq_false q]
    generalize (b.at' : Int) = c at *
    have e : (c == a) = false := by simp [q]
    go_enter Try.func103, Try.ntmps103
    go_wp2
    go_ret
    exact ⟨rfl, (Below.refl _ w).alloc (Nat.le_refl _) _⟩
set_option maxHeartbeats 2000000 in
theorem idx_any (v : Value) (l : List Bk) (a : Int) (bx : Nat) (w : World) (hc : w.cell? ⟨bx, 0, none⟩ = some (.int .i64 a)) (h : w.ownsRow 0 105 3 v l.length (rowL l)) :
    Calls Try.prog 102 #[v, .func (.func 103) #[] #[.pointer (some ⟨bx, 0, none⟩)]] w fun e w' => e = .returned (.int .i64 (posI a l)) ∧ Below w.heap.size w w' := by
  obtain ⟨q, cap, rfl, hq⟩ : ∃ q cap, v = .slice q l.length cap ∧ (0 < l.length → ∃ g, q = some ⟨g, 0, none⟩ ∧ ∀ i u, (rowL l)[i]? = some u → w.cell? ⟨g, i, none⟩ = some u) := by
    rcases h.2 with ⟨e1, e2⟩ | ⟨g, c, cur, e1, _⟩
    · exact ⟨none, 0, by rw [e1, e2], fun z => by omega⟩
    · refine ⟨_, c, e1, fun _ => ⟨g, rfl, fun i u hu => ?_⟩⟩
      have := h.cells (g := g) (by rw [e1]; rfl) i u hu
      rwa [addr_at, Nat.zero_add] at this
  have hmax : l.length ≤ 9223372036854775807 := by
    rcases h.2 with ⟨_, e2⟩ | ⟨g, c, cur, _, _, _, h1, h2, _⟩
    · omega
    · unfold maxLen at h2; omega
  clear h
  have hbl := block_lt_of_cell hc
  obtain ⟨n, hn⟩ : ∃ n, n = l.length := ⟨_, rfl⟩
  rw [← hn] at hq hmax ⊢
  have hrow : Hid (∀ (W : World), Below w.heap.size w W → ∀ j b, l[j]? = some b → ∃ g, q = some ⟨g, 0, none⟩ ∧ W.cell? ⟨g, j * 3, none⟩ = some (.int .i64 (b.at' : Int)) ∧ W.cell? ⟨g, j * 3 + 1, none⟩ = some (.string (ofL b.data)) ∧ W.cell? ⟨g, j * 3 + 2, none⟩ = some (.int .i64 b.st)) := fun W hW j b hj => by
    have hlt := (List.getElem?_eq_some_iff.1 hj).1
    obtain ⟨g, hg, hcell⟩ := hq (by omega)
    refine ⟨g, hg, ?_, ?_, ?_⟩
    · have := hcell (j * 3) _ (by rw [← Nat.add_zero (j * 3), rowL_get l j 0 (by omega) b hj]; rfl)
      rw [hW.cell (p := ⟨g, j * 3, none⟩) (block_lt_of_cell this)]; exact this
    · have := hcell (j * 3 + 1) _ (by rw [rowL_get l j 1 (by omega) b hj]; rfl)
      rw [hW.cell (p := ⟨g, j * 3 + 1, none⟩) (block_lt_of_cell this)]; exact this
    · have := hcell (j * 3 + 2) _ (by rw [rowL_get l j 2 (by omega) b hj]; rfl)
      rw [hW.cell (p := ⟨g, j * 3 + 2, none⟩) (block_lt_of_cell this)]; exact this
  have HC : Hid (∀ (W : World), Below w.heap.size w W → W.cell? ⟨bx, 0, none⟩ = some (.int .i64 a)) := fun W hW => by
    rw [hW.cell (p := ⟨bx, 0, none⟩) hbl]; exact hc
  have HN := Lib.hid hn
  clear hq hc hbl hn
  go_enter Try.func102, Try.ntmps102
  go_wp2
  go_loopg [5, 8] n (fun gg _ s8 wr => ∃ kk : Nat, kk ≤ n ∧ n - kk ≤ gg ∧ s8 = .int .i64 kk ∧ Aside (Below w.heap.size w wr) ∧ Aside (∀ (j : Nat) (c : Bk), j < kk → l[j]? = some c → (c.at' : Int) ≠ a))
  case atStart => exact ⟨0, Nat.zero_le _, by omega, rfl, Below.refl _ w, fun j c hj => absurd hj (Nat.not_lt_zero _)⟩
  case round =>
    obtain ⟨kk, hkk, hg, rfl, BW, A⟩ := hrel
    by_cases hlt : kk < n
    · have hltz : (kk : Int) < (n : Int) := by omega
      obtain ⟨b, hb⟩ : ∃ b, l[kk]? = some b := ⟨_, List.getElem?_eq_getElem (by have := HN.out; omega)⟩
      obtain ⟨g, rfl, c0, c1, c2⟩ := hrow.out wr BW.out kk b hb
      have hcall := here_any b a bx wr (HC.out wr BW.out)
      have HB := Lib.hid hb
      clear hb
      unfold Bk.agg at hcall
      by_cases q : (b.at' : Int) = a
      · rw [decide_eq_true q] at hcall
        have Q := Lib.hid q
        clear q
        go_wp2_with (go_at_call 103; refine hcall.mono ?_; rintro e w' ⟨rfl, hb'⟩)
        go_ret
        refine ⟨?_, BW.out.trans (hb'.mono BW.out.size)⟩
        rw [posI_hit HB.out Q.out A.out]
        rfl
      · rw [decide_eq_false q] at hcall
        have Q := Lib.hid q
        clear q
        go_wp2_with (go_at_call 103; refine hcall.mono ?_; rintro e w' ⟨rfl, hb'⟩)
        go_roundg (n - (kk + 1))
        case measure => omega
        case rel =>
          refine ⟨kk + 1, by omega, by omega, by go_num, BW.out.trans (hb'.mono BW.out.size), (show Aside _ from fun j c hj hc => ?_)⟩
          by_cases e : j = kk
          · subst e
            have := HB.out
            rw [this] at hc
            injection hc with hc
            rw [← hc]; exact Q.out
          · exact A.out j c (by omega) hc
    · have hltz : ¬ (kk : Int) < (n : Int) := by omega
      have hk : kk = n := by omega
      subst hk
      go_wp2
      go_ret
      refine ⟨?_, BW.out⟩
      rw [posI_miss (fun j c hc => A.out j c (by have := (List.getElem?_eq_some_iff.1 hc).1; have := HN.out; omega) hc)]
      rfl
end Go.Proofs.Ytnecbbflcpngcaa
