/- Rows of writes that are only read; a record's first bytes. Conditions: a list is no longer than a machine holds. -/
import Derived.Test.YtjippoejaieneaaGreatJda
import Derived.Laws.Concat
namespace Go.Proofs.YtjippoejaieneaaGreat
open Go.RowKit Go.Maps
set_option maxRecDepth 20000
set_option linter.unusedVariables false

structure Wt where
  c : Int
  d : ByteArray
/-- a slice of writes in blocks of G -/
def WV (w : World) (G : Nat → Prop) (v : Value) (l : List Wt) : Prop :=
  ∃ q cap, v = .slice q l.length cap ∧ l.length ≤ cap ∧ ∀ i (hi : i < l.length), ∃ b o, q = some ⟨b, o, none⟩ ∧ G b ∧ b < w.heap.size ∧ w.cell? ⟨b, o + i * 2, none⟩ = some (.int .i64 l[i].c) ∧ w.cell? ⟨b, o + i * 2 + 1, none⟩ = some (.string l[i].d)
theorem WV.keep {w w' : World} {F G : Nat → Prop} {v : Value} {l : List Wt} (h : WV w G v l) (c : Ch F w w') (hn : ∀ k, G k → ¬ F k) : WV w' G v l := by
  obtain ⟨q, cap, h1, h2, h3⟩ := h
  refine ⟨q, cap, h1, h2, fun i hi => ?_⟩
  obtain ⟨b, o, e1, e2, e3, e4, e5⟩ := h3 i hi
  have hb := c.block b e3 (hn b e2)
  refine ⟨b, o, e1, e2, Nat.lt_of_lt_of_le e3 c.size, ?_, ?_⟩
  · rw [← e4]; unfold World.cell?; simp only [hb]
  · rw [← e5]; unfold World.cell?; simp only [hb]
theorem WV.below {w w' : World} {G : Nat → Prop} {v : Value} {l : List Wt} (h : WV w G v l) (hb : Below w.heap.size w w') : WV w' G v l := h.keep (F := fun _ => False) (Ch.of_below hb) (fun _ _ z => z)
theorem ofL_append (a b : Bts) : ofL (a ++ b) = ofL a ++ ofL b := by
  apply ByteArray.ext; apply Array.ext'; simp [ofL]
def recT (l : List Wt) : Bts := l.flatMap fun x => Cd.putS x.c 2
/-- the bytes of a record's first data -/
def recB (l : List Wt) : Bts := Cd.putS (l.length : Int) 1 ++ recT l
theorem recT_len (l : List Wt) : (recT l).length = 2 * l.length := by
  unfold recT
  induction l with
  | nil => rfl
  | cons a r ih => simp only [List.flatMap_cons, List.length_append, ih, Cd.putS_length, List.length_cons]; omega
theorem recB_len (l : List Wt) : (recB l).length = 1 + 2 * l.length := by unfold recB; rw [List.length_append, Cd.putS_length, recT_len]
theorem recT_take (l : List Wt) (i : Nat) (hi : i < l.length) : recT (l.take (i + 1)) = recT (l.take i) ++ Cd.putS l[i].c 2 := by
  unfold recT
  rw [List.take_add_one, List.flatMap_append, List.getElem?_eq_getElem hi]
  simp
set_option maxHeartbeats 2000000 in
theorem recB_any (G : Nat → Prop) (v : Value) (l : List Wt) (w : World) (h : WV w G v l) (hl : l.length ≤ 4096) :
    Calls Tryz.prog 95 #[v] w fun e w' => e = .returned (.string (ofL (recB l))) ∧ Below w.heap.size w w' := by
  obtain ⟨q, cap, rfl, hlc, hw⟩ := h
  have HW := Lib.hid hw
  have hk : Hid (∀ (n : Int) (m : Nat), 1 ≤ m → m ≤ 8 → ∀ W, Calls Tryz.prog 121 #[.int .i64 n, .int .i64 (m : Int)] W fun e w' => e = .returned (.string (ofL (Cd.putS n m))) ∧ Below W.heap.size W w') := fun n m h1 h8 W => Cd.put_any n m W h1 h8
  have k1 : Hid (∀ W, Calls Tryz.prog 121 #[.int .i64 (l.length : Int), .int .i64 1] W fun e w' => e = .returned (.string (ofL (Cd.putS (l.length : Int) 1))) ∧ Below W.heap.size W w') := fun W => hk.out _ 1 (by omega) (by omega) W
  clear hw
  obtain ⟨L, hL⟩ : ∃ L, L = l.length := ⟨_, rfl⟩
  have HL := Lib.hid hL
  have hL4 : L ≤ 4096 := by omega
  rw [← hL] at hlc k1
  clear hl
  go_enter Tryz.func95, Tryz.ntmps95
  rw [← HL.out]
  clear hL
  go_wp2_with (go_at_call 121; refine (k1.out _).mono ?_; rintro e w1 ⟨rfl, hb1⟩)
  go_loopw [3, 11] (fun s i W => ∃ k : Nat, k ≤ L ∧ i = .int .i64 (k : Int) ∧ s = .string (ofL (Cd.putS (L : Int) 1 ++ recT (l.take k))) ∧ Below w.heap.size w W) (fun _ i _ => L - (RowKit.intOf i).toNat)
  case atStart => exact ⟨0, Nat.zero_le _, rfl, by simp [recT], hb1⟩
  case round =>
    obtain ⟨k, hk', rfl, rfl, hb⟩ := hrel
    by_cases hlt : k < L
    · have hki : (k : Int) < (L : Int) := by omega
      obtain ⟨b, o, hq, _, hbl, u0, u1⟩ := HW.out k (by rw [← HL.out]; exact hlt)
      obtain ⟨x, hx⟩ : ∃ x, x = l[k]'(by rw [← HL.out]; exact hlt) := ⟨_, rfl⟩
      rw [← hx] at u0 u1
      have HT : Hid (recT (l.take (k + 1)) = recT (l.take k) ++ Cd.putS x.c 2) := by rw [hx]; exact recT_take l k _
      have hlen : (recT (l.take k)).length ≤ 8192 := by rw [recT_len, List.length_take]; omega
      have y0 := cell_below u0 hb
      have y1 := cell_below u1 hb
      have hs0 := hb.size
      subst hq
      obtain ⟨O, hO⟩ : ∃ O, O = o + k * 2 := ⟨_, rfl⟩
      rw [← hO] at y0 y1
      have kp : Hid (∀ W, Calls Tryz.prog 121 #[.int .i64 x.c, .int .i64 2] W fun e w' => e = .returned (.string (ofL (Cd.putS x.c 2))) ∧ Below W.heap.size W w') := fun W => hk.out _ 2 (by omega) (by omega) W
      have hs1 : (ofL (Cd.putS x.c 2)).size = 2 := by rw [ofL_size, Cd.putS_length]
      obtain ⟨A, hA⟩ : ∃ A, A = Cd.putS (L : Int) 1 ++ recT (l.take k) := ⟨_, rfl⟩
      rw [← hA]
      have hAs : (ofL A).size ≤ 8193 := by rw [ofL_size, hA, List.length_append, Cd.putS_length]; omega
      have hsum : ¬ (9223372036854775807 < (ofL A).size + (ofL (Cd.putS x.c 2)).size) := by omega
      have HA := Lib.hid hA
      have hOs : o + k * 2 = O := hO.symm
      have HB := Lib.hid hb
      clear u0 u1 hx hb hA hlen hO
      go_wp2_with (go_at_call 121; refine (kp.out _).mono ?_; rintro e w2 ⟨rfl, hb2⟩)
      go_roundw
      case rel => exact ⟨k + 1, by omega, by go_num, by rw [HT.out, ← List.append_assoc, ← HA.out, ofL_append], ((HB.out.alloc HB.out.size _).trans (hb2.mono (by simp; omega)))⟩
      case measure => simp only [RowKit.intOf]; omega
    · have hkL : k = L := by omega
      subst hkL
      have HT : Hid (recT (l.take k) = recT l) := by rw [HL.out, List.take_length]; rfl
      rw [HT.out]
      go_wp2
      go_ret
      exact ⟨by rw [HL.out]; rfl, hb⟩
end Go.Proofs.YtjippoejaieneaaGreat
