/- The reader's first steps: what the calls return, how a fault goes out, what is left of the pattern. Conditions: the reader lies in memory. -/
import Derived.Test.YtdmajbdgjjmlkaaLie
import Derived.Test.YtdmajbdgjjmlkaaSpc
import Derived.OwnWalk
namespace Go.Proofs.Ytdmajbdgjjmlkaa
open Go.RowKit
set_option linter.unusedVariables false

def str (l : Bs) : ByteArray := ⟨l.toArray⟩
/-- the fault that a reader gives up by -/
abbrev pan : Ending := .panicked [{ v := .iface 28 (.int .i64 50), recovered := false }]
/-- block b is a reader with l left -/
def St (w : World) (b : Nat) (l : Bs) : Prop := w.heap[b]? = some (.cells #[.string (str l)] 98 (0, 0))
structure Step (b : Nat) (w w' : World) (l : Bs) : Prop where
  grown : w.grownBy w' (some b)
  st : St w' b l
theorem block_lt {w : World} {b : Nat} {o : Obj} (h : w.heap[b]? = some o) : b < w.heap.size := by
  rcases Nat.lt_or_ge b w.heap.size with h' | h'
  · exact h'
  · simp [Array.getElem?_eq_none h'] at h
theorem grown_trans {w w1 w2 : World} {r : Option Nat} (h : w.grownBy w1 r) (k : w1.grownBy w2 r) : w.grownBy w2 r :=
  ⟨k.os.trans h.os, k.tape.trans h.tape, k.output.trans h.output, Nat.le_trans h.size k.size, fun i hi hn => (k.block i (Nat.lt_of_lt_of_le hi h.size) hn).trans (h.block i hi hn)⟩
theorem Step.trans {b : Nat} {w w1 w2 : World} {l1 l2 : Bs} (h : Step b w w1 l1) (k : Step b w1 w2 l2) : Step b w w2 l2 := ⟨grown_trans h.grown k.grown, k.st⟩
theorem Step.refl {b : Nat} {w : World} {l : Bs} (h : St w b l) : Step b w w l := ⟨World.grownBy.refl _ _, h⟩
theorem St.cell {w : World} {b : Nat} {l : Bs} (h : St w b l) : w.cell? ⟨b, 0, none⟩ = some (.string (str l)) := by rw [cell_of_row _ _ _ _ _ _ h]; rfl
theorem St.free {w : World} {b : Nat} {l : Bs} (h : St w b l) : w.frozen? ⟨b, 0, none⟩ = false := by unfold St at h; simp [World.frozen?, h]
theorem block_setCell {w : World} {b o : Nat} {C : Array Value} {t : TypeId} {fr : Nat × Nat} {u : Value} (h : w.heap[b]? = some (.cells C t fr)) :
    (w.setCell ⟨b, o, none⟩ u).heap[b]? = some (.cells (C.setIfInBounds o u) t fr) := by
  have hlt := block_lt h
  have h' : w.heap[b] = .cells C t fr := by simpa [Array.getElem?_eq_getElem hlt] using h
  show (w.heap.modify b _)[b]? = _
  rw [Array.getElem?_eq_getElem (by simpa using hlt), Array.getElem_modify_self, h']
  rfl
theorem St.put {w : World} {b : Nat} {l : Bs} (h : St w b l) (l' : Bs) : Step b w (w.setCell ⟨b, 0, none⟩ (.string (str l'))) l' :=
  ⟨⟨rfl, rfl, rfl, by simp, fun i hi hn => heap_setCell_other w ⟨b, 0, none⟩ i _ (fun e => hn (by rw [e]))⟩, by unfold St; rw [block_setCell h]; rfl⟩
theorem loop_list (s : ByteArray) : ∀ (n i : Nat) (r : List UInt8), s.size - i = n → ByteArray.toList.loop s i r = r.reverse ++ s.data.toList.drop i
  | 0, i, r, h => by
    unfold ByteArray.toList.loop
    rw [if_neg (by omega), List.drop_eq_nil_of_le (by simp; have : s.data.size = s.size := rfl; omega)]
    simp
  | n + 1, i, r, h => by
    unfold ByteArray.toList.loop
    have hi : i < s.size := by omega
    rw [if_pos hi, loop_list s n (i + 1) _ (by omega)]
    have hd := List.drop_eq_getElem_cons (l := s.data.toList) (i := i) (by simpa using hi)
    rw [hd]
    have e : s.get! i = s.data.toList[i]'(by simpa using hi) := by
      simp [ByteArray.get!, hi]
    rw [e]
    simp
theorem bytes_list (s : ByteArray) : s.toList = s.data.toList := by
  unfold ByteArray.toList
  rw [loop_list s _ 0 [] rfl]
  simp
/-- a byte ahead -/
theorem str_cons (c : UInt8) (l : Bs) : ∃ s, str (c :: l) = s ∧ 0 < s.size ∧ (∀ h : 0 < s.size, s[0] = c) ∧ s.extract 1 s.size = str l ∧ s.toList.isEmpty = false ∧ ¬ s.toList = [] := by
  have hl : (str (c :: l)).toList = c :: l := by rw [bytes_list]; simp [str]
  refine ⟨_, rfl, by simp [str, ByteArray.size], fun h => rfl, ?_, ?_, ?_⟩
  · apply ByteArray.ext
    simp [str, ByteArray.data_extract, ByteArray.size]
  · rw [hl]; rfl
  · rw [hl]; exact fun h => by cases h
theorem str_size (l : Bs) : (str l).size = l.length := by simp [str, ByteArray.size]

set_option maxHeartbeats 400000 in
theorem refuse_no (w : World) : Calls Try.prog 55 #[.bool false] w fun e w' => e = .returned (.tuple #[]) ∧ w = w' := by
  go_enter Try.func55, Try.ntmps55
  go_wp2
  go_end0
  exact ⟨rfl, rfl⟩
set_option maxHeartbeats 400000 in
theorem refuse_yes (w : World) : Calls Try.prog 55 #[.bool true] w fun e w' => e = pan ∧ w = w' := by
  go_enter Try.func55, Try.ntmps55
  go_wp2
  exact ⟨rfl, rfl, rfl⟩
set_option maxHeartbeats 400000 in
theorem takes_yes (b : Nat) (c : UInt8) (l : Bs) (w : World) (h : St w b (c :: l)) : Calls Try.prog 61 #[.pointer (some ⟨b, 0, none⟩), .int .u8 (c.toNat : Nat)] w fun e w' => e = .returned (.bool true) ∧ Step b w w' l := by
  have hc := h.cell
  have hf := h.free
  have fin : Hid (Step b w (w.setCell ⟨b, 0, none⟩ (.string (str l))) l) := h.put l
  obtain ⟨s, hs, h1, h2, h3, h4, h5⟩ := str_cons c l
  rw [hs] at hc
  have e0 := h2 h1
  rw [← h3] at fin
  have d0 : (((s[0].toNat : Nat) : Int) != ((c.toNat : Nat) : Int)) = false := by rw [e0]; simp
  clear hs h2 h3 h e0
  go_enter Try.func61, Try.ntmps61
  go_wp2
  go_ret
  exact ⟨rfl, fin.out⟩
set_option maxHeartbeats 400000 in
theorem takes_no (b : Nat) (c : UInt8) (l : Bs) (w : World) (h : St w b l) (hn : isNext c l = false) : Calls Try.prog 61 #[.pointer (some ⟨b, 0, none⟩), .int .u8 (c.toNat : Nat)] w fun e w' => e = .returned (.bool false) ∧ Step b w w' l := by
  have hc := h.cell
  have hf := h.free
  have fin := Lib.hid (Step.refl h)
  cases l with
  | nil =>
    have e : str [] = ⟨#[]⟩ := rfl
    rw [e] at hc
    clear h hn e
    go_enter Try.func61, Try.ntmps61
    go_wp2
    go_ret
    exact ⟨rfl, fin.out⟩
  | cons x l =>
    obtain ⟨s, hs, h1, h2, h3, h4, h5⟩ := str_cons x l
    rw [hs] at hc
    have e0 := h2 h1
    have hxc : ¬ x = c := by simpa [isNext] using hn
    have d0 : (((s[0].toNat : Nat) : Int) != ((c.toNat : Nat) : Int)) = true := by
      rw [e0]; simp
      exact fun q => hxc (UInt8.toNat_inj.1 (by omega))
    clear hs h2 h3 h e0 hxc hn
    go_enter Try.func61, Try.ntmps61
    go_wp2
    go_ret
    exact ⟨rfl, fin.out⟩
set_option maxHeartbeats 400000 in
theorem take_yes (b : Nat) (c : UInt8) (l : Bs) (w : World) (h : St w b (c :: l)) : Calls Try.prog 83 #[.pointer (some ⟨b, 0, none⟩)] w fun e w' => e = .returned (.int .u8 (c.toNat : Nat)) ∧ Step b w w' l := by
  have hc := h.cell
  have hf := h.free
  have fin : Hid (Step b w (w.setCell ⟨b, 0, none⟩ (.string (str l))) l) := h.put l
  obtain ⟨s, hs, h1, h2, h3, h4, h5⟩ := str_cons c l
  rw [hs] at hc
  have e0 := Lib.hid (h2 h1)
  rw [← h3] at fin
  have RN := Lib.hid refuse_no
  clear hs h2 h3 h
  go_enter Try.func83, Try.ntmps83
  go_wp2_with (go_at_call 55; (with_reducible refine (RN.out _).mono ?_); rintro e w' ⟨rfl, rfl⟩)
  go_ret
  exact ⟨by rw [← e0.out]; rfl, fin.out⟩
set_option maxHeartbeats 400000 in
theorem take_no (b : Nat) (w : World) (h : St w b []) : Calls Try.prog 83 #[.pointer (some ⟨b, 0, none⟩)] w fun e w' => e = pan ∧ w.grownBy w' (some b) := by
  have hc := h.cell
  have RY := Lib.hid refuse_yes
  have fin := Lib.hid (World.grownBy.refl w (some b))
  have e : str [] = ⟨#[]⟩ := rfl
  rw [e] at hc
  clear h e
  go_enter Try.func83, Try.ntmps83
  go_wp2_with (go_at_call 55; (with_reducible refine (RY.out _).mono ?_); rintro e w' ⟨rfl, rfl⟩)
  exact ⟨rfl, rfl, fin.out⟩
end Go.Proofs.Ytdmajbdgjjmlkaa
