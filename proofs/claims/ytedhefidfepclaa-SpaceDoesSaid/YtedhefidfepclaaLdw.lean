/- Words loaded through a table, and what reading and writing answer at all. Conditions: numbers that a machine holds. -/
import Derived.Test.YtedhefidfepclaaWrb
namespace Go.Proofs.Ytedhefidfepclaa
open Go.RowKit Go.Maps
set_option linter.unusedVariables false

theorem read_any (p g cap F : Nat) (B : Bts) (w : World) (h : IsM w p g cap F B) (G : Nat → Prop) (v : Value) (ps : List Pg) (ht : TabV G w v ps) (a n R : Int) (ha : In64 a) :
    Calls Try.prog 40 #[.pointer (some ⟨p, 0, none⟩), v, .int .i64 a, .int .i64 n, .int .i64 R] w fun e w' => e = .returned (.tuple #[.string (ofL (readS F ps B a n R)), .int .i64 (readE F ps a n R)]) ∧ Below w.heap.size w w' := by
  by_cases h0 : readE F ps a n R = 0
  · have hn : 0 ≤ n := by
      unfold readE at h0
      split at h0
      · split at h0
        · rename_i q; exact q.1
        · cases h0
      · contradiction
    obtain ⟨m, rfl⟩ : ∃ m : Nat, n = (m : Int) := ⟨n.toNat, by omega⟩
    unfold readS
    rw [if_pos h0, h0, Int.toNat_natCast]
    exact read_ok p g cap F B w h G v ps ht a m R ha h0
  · unfold readS
    rw [if_neg h0]
    exact read_no p g cap F B w h G v ps ht a n R ha h0
theorem write_any (p g cap F : Nat) (B : Bts) (w : World) (h : IsM w p g cap F B) (G : Nat → Prop) (hGg : ¬ G g) (v : Value) (ps : List Pg) (ht : TabV G w v ps) (a : Int) (st : ByteArray) (ha : In64 a) (hsz : st.size < 9223372036854775808) :
    Calls Try.prog 42 #[.pointer (some ⟨p, 0, none⟩), v, .int .i64 a, .string st] w fun e w' => e = .returned (.int .i64 (writeE F ps a st.size)) ∧ IsM w' p g cap F (writeB F ps B a st.data.toList) ∧ Ch (onB g) w w' := by
  unfold writeB
  rw [baList]
  by_cases h0 : writeE F ps a st.size = 0
  · rw [if_pos h0, h0]
    exact write_ok p g cap F B w h G hGg v ps ht a st ha h0
  · rw [if_neg h0]
    exact (write_no p g cap F B w h G v ps ht a st ha hsz h0).mono fun e w' q => ⟨q.1, h.below q.2, Ch.of_below q.2⟩
/-- a word of bytes, the highest first -/
def word (s : Bts) : Int := s.foldl (fun x b => 256 * x + (b.toNat : Int)) 0
theorem word_snoc (s : Bts) (b : UInt8) : word (s ++ [b]) = 256 * word s + (b.toNat : Int) := by simp [word]
theorem word_bound (s : Bts) : 0 ≤ word s ∧ word s < 256 ^ s.length := by
  suffices ∀ (n : Nat) (s : Bts), s.length = n → 0 ≤ word s ∧ word s < 256 ^ n from this _ s rfl
  intro n
  induction n with
  | zero => intro s hs; have := List.length_eq_zero_iff.1 hs; subst this; exact ⟨Int.le_refl _, by decide⟩
  | succ n ih =>
    intro s hs
    obtain ⟨t, b, rfl⟩ : ∃ t b, s = t ++ [b] := ⟨s.dropLast, s.getLast (fun e => by subst e; cases hs), (List.dropLast_concat_getLast _).symm⟩
    rw [List.length_append] at hs
    have := ih t (by simpa using hs)
    rw [word_snoc]
    have hb := b.toNat_lt
    rw [Int.pow_succ]
    omega
def loadE (F : Nat) (ps : List Pg) (a n R : Int) : Int := if chkW F ps n = 0 then readE F ps a n R else chkW F ps n
def loadN (F : Nat) (ps : List Pg) (B : Bts) (a n R : Int) : Int := if loadE F ps a n R = 0 then word (readS F ps B a n R) else 0
theorem toNat_ofInt64 (a : Int) : (BitVec.ofInt 64 a).toNat = (a % 18446744073709551616).toNat := BitVec.toNat_ofInt ..
theorem or_low (q c : Nat) (hc : c < 256) : 256 * q ||| c = 256 * q + c := by
  have h := Nat.two_pow_add_eq_or_of_lt (i := 8) (b := c) hc q
  exact h.symm
theorem or64 (r : Int) (c : Nat) (hc : c < 256) : bits BinOp.or IntKind.i64 (wrap64 (r * 256)) (wrap64 (c : Int)) = wrap64 (r * 256 + c) := by
  show IntKind.i64.wrap ((BitVec.ofInt 64 (wrap64 (r * 256)) ||| BitVec.ofInt 64 (wrap64 (c : Int))).toNat : Int) = _
  rw [BitVec.toNat_or, toNat_ofInt64, toNat_ofInt64]
  have e1 : (wrap64 (c : Int) % 18446744073709551616).toNat = c := by unfold wrap64; omega
  have e2 : (wrap64 (r * 256) % 18446744073709551616).toNat = 256 * ((r * 256 % 18446744073709551616).toNat / 256) := by unfold wrap64; omega
  rw [e1, e2, or_low _ _ hc, IntKind.wrap_i64]
  unfold wrap64
  omega
theorem shl_or {x : Int} (hx : 0 ≤ x ∧ x < 4294967296) (b : Nat) (hb : b < 256) : bits .or .i64 (x * 256) (b : Int) = 256 * x + b := by
  have h := or64 x b hb
  have e1 : wrap64 (x * 256) = x * 256 := by unfold wrap64; omega
  have e2 : wrap64 (b : Int) = (b : Int) := by unfold wrap64; omega
  have e3 : wrap64 (x * 256 + b) = 256 * x + b := by unfold wrap64; omega
  rw [e1, e2, e3] at h
  exact h
set_option maxRecDepth 20000 in
set_option maxHeartbeats 2000000 in
theorem load_any (p g cap F : Nat) (B : Bts) (w : World) (h : IsM w p g cap F B) (G : Nat → Prop) (v : Value) (ps : List Pg) (ht : TabV G w v ps) (a n R : Int) (ha : In64 a) :
    Calls Try.prog 71 #[.pointer (some ⟨p, 0, none⟩), v, .int .i64 a, .int .i64 n, .int .i64 R] w fun e w' => e = .returned (.tuple #[.int .i64 (loadN F ps B a n R), .int .i64 (loadE F ps a n R)]) ∧ Below w.heap.size w w' := by
  have kc := checkw_any p g cap F B w h G v ps ht n
  obtain ⟨q, np, cap0, rfl⟩ : ∃ q n cap, v = .slice q n cap := by obtain ⟨q, cap, e, _⟩ := ht; exact ⟨_, _, _, e⟩
  unfold loadN loadE
  by_cases c0 : chkW F ps n = 0
  · rw [if_pos c0]
    rw [c0] at kc
    have hn : n = 1 ∨ n = 2 ∨ n = 4 := by
      unfold chkW at c0
      split at c0
      · split at c0
        · assumption
        · cases c0
      · contradiction
    have HR : Hid (∀ W, Below w.heap.size w W → Calls Try.prog 40 #[.pointer (some ⟨p, 0, none⟩), .slice q np cap0, .int .i64 a, .int .i64 n, .int .i64 R] W fun e w' => e = .returned (.tuple #[.string (ofL (readS F ps B a n R)), .int .i64 (readE F ps a n R)]) ∧ Below W.heap.size W w') :=
      fun W hW => read_any p g cap F B W (h.below hW) G _ ps (ht.below hW) a n R ha
    have hlen : (readS F ps B a n R).length ≤ 4 := by
      unfold readS
      split
      · rw [rd_len]; omega
      · simp
    have hsame : (if readE F ps a n R = 0 then word (readS F ps B a n R) else 0) = word (readS F ps B a n R) := by
      split
      · rfl
      · rename_i q; unfold readS; rw [if_neg q]; rfl
    rw [hsame]
    obtain ⟨s, hs⟩ : ∃ s, s = readS F ps B a n R := ⟨_, rfl⟩
    obtain ⟨x, hx⟩ : ∃ x, x = readE F ps a n R := ⟨_, rfl⟩
    rw [← hs] at hlen ⊢
    rw [← hx]
    have HS := Lib.hid (And.intro hs hx)
    have HM : Hid (∀ W, ∃ cap w', (convert 9 97 (.string (ofL s))).run Try.prog W = .ok (.slice (some ⟨W.heap.size, 0, none⟩) s.length cap) w' ∧ RowB 5 w' W.heap.size cap s ∧ Below W.heap.size W w') := fun W => by
      obtain ⟨c, w', h1, h2, h3, _⟩ := RowB.made W (ofL s) (by rw [ofL_size]; omega)
      rw [ofL_size] at h1
      rw [ofL_list] at h2
      exact ⟨c, w', h1, h2, h3⟩
    clear h ht c0 hsame hs hx hn
    go_enter Try.func71, Try.ntmps71
    go_wp2_with (first
      | (go_at_call 101; refine kc.mono ?_; rintro e w' ⟨rfl, hb⟩; have HB := Lib.hid hb)
      | (go_at_call 40; refine (HR.out _ HB.out).mono ?_; rw [← HS.out.1, ← HS.out.2]; rintro e w'' ⟨rfl, hb'⟩; have HB' := Lib.hid hb'; obtain ⟨c2, w3, hcv, hrow, hb3⟩ := HM.out w''; have HC := Lib.hid (And.intro hrow hb3); clear hrow hb3 hb'))
    obtain ⟨L, hL⟩ : ∃ L, L = s.length := ⟨_, rfl⟩
    rw [← hL]
    obtain ⟨gb, hgb⟩ : ∃ gb, gb = w''.heap.size := ⟨_, rfl⟩
    have HC2 := HC
    rw [← hgb] at HC ⊢
    clear hgb hcv
    go_loopw [15, 37] (fun y i wr => ∃ k : Nat, k ≤ L ∧ i = .int .i64 (k : Int) ∧ y = .int .i64 (word (s.take k)) ∧ Below w3.heap.size w3 wr) (fun _ i _ => L - (intOf i).toNat)
    case atStart => exact ⟨0, Nat.zero_le _, rfl, rfl, Below.refl _ _⟩
    case round =>
      obtain ⟨k, hk, rfl, rfl, hbw⟩ := hrel
      by_cases a0 : k < L
      · have hw4 := word_bound (s.take k)
        rw [List.length_take, Nat.min_eq_left (by omega)] at hw4
        have hstep : word (s.take (k + 1)) = 256 * word (s.take k) + ((s.getD k 0).toNat : Int) := by
          rw [← word_snoc]
          congr 1
          rw [List.take_add_one, List.getD_eq_getElem?_getD, List.getElem?_eq_getElem (show k < s.length by omega)]
          rfl
        have c0 : wr.cell? ⟨gb, k, none⟩ = some (.int .u8 ((s.getD k 0).toNat : Int)) := cell_below (HC.out.1.cell k (by omega)) hbw
        obtain ⟨X, hX⟩ : ∃ X, X = word (s.take k) := ⟨_, rfl⟩
        obtain ⟨bv, hbv⟩ : ∃ bv, bv = (s.getD k 0).toNat := ⟨_, rfl⟩
        have hb8 : bv < 256 := by rw [hbv]; exact (s.getD k 0).toNat_lt
        have hXb : 0 ≤ X ∧ X < 16777216 := by
          rw [hX]
          refine ⟨hw4.1, Int.lt_of_lt_of_le hw4.2 ?_⟩
          have : k = 0 ∨ k = 1 ∨ k = 2 ∨ k = 3 := by omega
          rcases this with rfl | rfl | rfl | rfl <;> decide
        rw [← hX, ← hbv] at hstep
        rw [← hbv] at c0
        rw [← hX]
        have HST := Lib.hid (And.intro hstep (And.intro hX hbw))
        have hso := shl_or (x := X) ⟨hXb.1, by omega⟩ bv hb8
        clear hstep hX hbv hw4 hbw
        go_wp2
        refine ⟨⟨k + 1, a0, rfl, ?_, HST.out.2.2⟩, ?_⟩
        · rw [HST.out.1]
        · have z := a0
          simp [intOf]; omega
      · obtain rfl : k = L := by omega
        have hfull : word (s.take k) = word s := by rw [List.take_of_length_le (by omega)]
        have HF := Lib.hid (And.intro hfull hbw)
        clear hfull hbw
        go_wp2
        go_ret2
        refine ⟨by rw [← HF.out.1]; rfl, ?_⟩
        have b2 := HB.out.trans (HB'.out.mono HB.out.size)
        have b3 := b2.trans (HC2.out.2.mono b2.size)
        exact b3.trans (HF.out.2.mono b3.size)
  · rw [if_neg c0, if_neg c0]
    clear h ht
    generalize chkW F ps n = x at *
    go_enter Try.func71, Try.ntmps71
    go_wp2_with (go_at_call 101; refine kc.mono ?_; rintro e w' ⟨rfl, hb⟩)
    go_ret2
    exact ⟨rfl, hb⟩
end Go.Proofs.Ytedhefidfepclaa
