/- A program's text. Conditions: the library's variables are as they were laid. -/
import Derived.Test.YtmclcobklcjmnaaDoorBld
namespace Go.Proofs.YtmclcobklcjmnaaDoor
open Go.RowKit Go.Maps
set_option linter.unusedVariables false
set_option linter.unusedSimpArgs false

theorem atF_below {B b : Nat} {p : Value} {bs : List Value} {w w' : World} (h : Lib.BuilderAtF 67 5 B b p bs w) (hb : Below w.heap.size w w') : Lib.BuilderAtF 67 5 B b p bs w' := by
  have hlt := h.lt
  obtain ⟨hB, v, hbk, hown, hne⟩ := h
  exact ⟨hB, v, (hb.block b hlt).trans hbk, hown.kept (row := none) ⟨hb.os, hb.tape, hb.output, hb.size, fun i hi _ => hb.block i hi⟩ (by cases hv : v.ownBlock <;> simp), hne⟩
theorem isF_below {B b : Nat} {bs : List Value} {w w' : World} (h : Lib.IsBuilderF 67 5 B b bs w) (hb : Below w.heap.size w w') : Lib.IsBuilderF 67 5 B b bs w' := h.imp (fun h => atF_below h hb) (fun h => atF_below h hb)
def lisP : Bs → Bs
  | b0 :: b1 :: b2 :: b3 :: r => linS [b0, b1, b2, b3] ++ 10 :: lisP r
  | _ => []
theorem lisP_snoc : ∀ (k : Nat) (l q : Bs), l.length = 4 * k → q.length = 4 → lisP (l ++ q) = lisP l ++ (linS q ++ [10])
  | 0, l, q, h, hq => by
    obtain rfl : l = [] := List.eq_nil_of_length_eq_zero (by omega)
    match q, hq with
    | [a, b, c, d], _ => simp [lisP]
  | k + 1, l, q, h, hq => by
    match l, h with
    | a :: b :: c :: d :: r, h =>
      have := lisP_snoc k r q (by simp at h; omega) hq
      simp only [List.cons_append, lisP, this, List.append_assoc, List.cons_append]
theorem dec_len100 (u : Nat) (h : u < 18446744073709551616) : (Lib.decDigits u).length ≤ 20 := by
  rw [Lib.decDigits_length]
  exact Lib.nDigits_le20 u h
theorem prnI_len (i : In) (h : okI i = true) : (prnI i).length ≤ 80 := by
  rw [okI_iff] at h
  have hi := imm_range h.2
  have hf := (fits_iff _ _).1 h.2
  have ra := mayN_range hf.1
  have rb := mayN_range hf.2.1
  have lA := Lib.itoa_length_le i.a (by omega) (by omega)
  have lB := Lib.itoa_length_le i.b (by omega) (by omega)
  have lC := Lib.itoa_length_le i.imm (by omega) (by omega)
  have lN := nam_len i.op
  unfold prnI regS
  simp only [List.length_append]
  split <;> split <;> split <;> simp <;> omega
theorem linS_len (q : Bs) (h : q.length = 4) : (linS q).length ≤ 80 := by
  unfold linS
  cases hd : decS q with
  | some i => exact prnI_len i (dec_some hd).1
  | none =>
    have := valB_lt q 4 (by omega)
    rw [List.take_of_length_le (by omega)] at this
    have := dec_len100 (valB q) (by omega)
    simp [wordL]
    omega
theorem lisP_len : ∀ (k : Nat) (l : Bs), l.length = 4 * k → (lisP l).length ≤ 81 * k
  | 0, l, h => by
    obtain rfl : l = [] := List.eq_nil_of_length_eq_zero (by omega)
    simp [lisP]
  | k + 1, l, h => by
    match l, h with
    | a :: b :: c :: d :: r, h =>
      have h1 := lisP_len k r (by simp at h; omega)
      have h2 := linS_len [a, b, c, d] rfl
      simp only [lisP, List.length_append, List.length_cons]
      omega
def lisE (n : Nat) : Int := if 4096 < n then 94 else if n % 4 = 0 then 0 else 91
def lisS (l : Bs) : Bs := if 4096 < l.length then [] else if l.length % 4 = 0 then lisP l else []
theorem ext_mid (s : ByteArray) (i j : Nat) : s.extract i j = str ((s.data.toList.drop i).take (j - i)) := by
  apply ByteArray.ext
  apply Array.ext'
  rw [ByteArray.data_extract, Array.toList_extract, List.extract_eq_take_drop]
  rfl
set_option maxRecDepth 100000 in
set_option maxHeartbeats 4000000 in
theorem list_any (s : ByteArray) (w : World) (hL : LaidV w) : Calls Tryd.prog 13 #[.string s] w fun e w' => e = .returned (.tuple #[.string (str (lisS s.data.toList)), .int .i64 (lisE s.size)]) ∧ Below w.heap.size w w' := by
  have hsz : s.data.toList.length = s.size := Array.length_toList
  unfold lisS lisE
  rw [hsz]
  by_cases h1 : 4096 < s.size
  · rw [if_pos h1, if_pos h1]
    have h1i : (4096 : Int) < (s.size : Int) := by omega
    have e0 : Hid (str [] = ByteArray.empty) := Lib.hid rfl
    rw [e0.out]
    clear hL hsz
    go_enter Tryd.func13, Tryd.ntmps13
    go_wp2
    go_ret2
    exact ⟨rfl, Below.refl _ _⟩
  · rw [if_neg h1, if_neg h1]
    by_cases h2 : s.size % 4 = 0
    · rw [if_pos h2, if_pos h2]
      obtain ⟨m, hm⟩ : ∃ m, s.size = 4 * m := ⟨s.size / 4, by omega⟩
      have hm1 : m ≤ 1024 := by omega
      have t1 : ((s.size : Int)).tmod 4 = 0 := by rw [Int.tmod_eq_emod_of_nonneg (by omega)]; omega
      have t2 : ((s.size : Int)) % 4 = 0 := by omega
      have t3 : ¬ (4096 : Int) < (s.size : Int) := by omega
      have KL : Hid (∀ q : Bs, q.length = 4 → ∀ w1, Below w.heap.size w w1 → Calls Tryd.prog 33 #[.string (str q)] w1 fun e w' => e = .returned (.string (str (linS q))) ∧ Below w1.heap.size w1 w') := Lib.hid fun q hq w1 h => by
        have := lin_any (str q) (by rw [str_size]; exact hq) w1 (hL.below h)
        rwa [str_list] at this
      have H := Lib.hid (And.intro hsz (And.intro hm hm1))
      have KW : Hid (∀ (q acc : Bs) (t : ByteArray) w1, t = str (linS q ++ [10]) → acc.length + t.size ≤ 140737488355328 → Lib.IsBuilderF 67 5 w.heap.size w.heap.size (Lib.byteCells acc) w1 → w.heap.size ≤ w1.heap.size → Calls Tryd.prog 32 #[.pointer (some ⟨w.heap.size, 0, none⟩), .string t] w1 fun e w' => e = .returned (.tuple #[.int .i64 t.size, .nilIface]) ∧ (Lib.IsBuilderF 67 5 w.heap.size w.heap.size (Lib.byteCells (acc ++ (linS q ++ [10]))) w' ∧ Below w.heap.size w1 w')) := Lib.hid fun q acc t w1 ht hl hI hz =>
        (write_any w.heap.size w.heap.size (Lib.byteCells acc) t w1 hI (by rw [Lib.byteCells_length]; exact hl) hz).mono fun e w' ⟨he, hA, hb, _⟩ => ⟨he, .inr (by
          rw [Lib.byteCells_append]
          rw [Lib.strCells_eq, ht, str_list] at hA
          exact hA), hb⟩
      have KS : Hid (∀ (l : Bs) w1, Lib.IsBuilderF 67 5 w.heap.size w.heap.size (Lib.byteCells l) w1 → w.heap.size ≤ w1.heap.size → Calls Tryd.prog 34 #[.pointer (some ⟨w.heap.size, 0, none⟩)] w1 fun e w' => e = .returned (.string (str l)) ∧ Below w.heap.size w1 w') := Lib.hid fun l w1 hI hz => (Tryd.Builder_String_any_k _ _ l w1 hI hz).mono fun e w' ⟨he, _, hb, _⟩ => ⟨he, hb⟩
      obtain ⟨T0, hT0⟩ : ∃ T0, T0 = str (lisP s.data.toList) := ⟨_, rfl⟩
      rw [← hT0]
      have HT0 := Lib.hid hT0
      clear hL hsz h1 h2 hm hm1 hT0
      go_enter Tryd.func13, Tryd.ntmps13
      go_wp2
      have hI0 := Lib.IsBuilderF.of (Lib.fresh_isBuilder 67 5 w)
      go_loopw [5] (fun i wr => ∃ k p : Nat, p = 4 * k ∧ k ≤ m ∧ i = .int .i64 (p : Nat) ∧ Lib.IsBuilderF 67 5 w.heap.size w.heap.size (Lib.byteCells (lisP (s.data.toList.take p))) wr ∧ Below w.heap.size w wr) (fun i _ => s.size - (intOf i).toNat)
      case atStart => exact ⟨0, 0, rfl, Nat.zero_le _, rfl, hI0, (Below.refl _ _).alloc (Nat.le_refl _) _⟩
      case round =>
        obtain ⟨k, p, hp, hk, rfl, hI, hbw⟩ := hrel
        clear hI0
        obtain ⟨hz, hm, hm1⟩ := H.out
        by_cases hlt : k < m
        · obtain ⟨q, hq⟩ : ∃ q, q = (s.data.toList.drop p).take 4 := ⟨_, rfl⟩
          have hq4 : q.length = 4 := by rw [hq, List.length_take, List.length_drop]; omega
          have hex : s.extract p (p + 4) = str q := by rw [ext_mid, hq]; congr 2; omega
          have hsn : lisP (s.data.toList.take (p + 4)) = lisP (s.data.toList.take p) ++ (linS q ++ [10]) := by
            rw [← lisP_snoc k _ q (by rw [List.length_take]; omega) hq4, hq, List.take_add]
          have hal := lisP_len k (s.data.toList.take p) (by rw [List.length_take]; omega)
          have hll := linS_len q hq4
          obtain ⟨acc, hacc⟩ : ∃ acc, acc = lisP (s.data.toList.take p) := ⟨_, rfl⟩
          obtain ⟨t, ht⟩ : ∃ t, t = str (linS q) := ⟨_, rfl⟩
          have hts : t.size ≤ 80 := by rw [ht, str_size]; exact hll
          have h10 : t ++ ⟨#[10]⟩ = str (linS q ++ [10]) := by rw [str_add, ht]; rfl
          have KL2 := Lib.hid (KL.out q hq4)
          rw [← ht] at KL2
          rw [← hacc] at hI hsn hal
          have b1 : (p : Int) + 4 ≤ (s.size : Int) := by omega
          have b2 : (p : Int) < (s.size : Int) := by omega
          have b3 : (s.size : Int) ≤ 4096 := by omega
          have HSZ : Hid (acc.length + (t ++ ⟨#[10]⟩).size ≤ 140737488355328) := Lib.hid (by rw [ByteArray.size_append]; show acc.length + (t.size + 1) ≤ _; omega)
          have HH := Lib.hid (And.intro hp (And.intro hI (And.intro hbw (And.intro hsn (And.intro h10 (And.intro hal (And.intro hm (And.intro hm1 hlt))))))))
          clear hp hk hI hbw hsn h10 hal hll hq4 hq ht hacc hz hm hm1 hlt
          go_wp2_with (first
            | (go_at_call 33; (with_reducible refine (KL2.out _ HH.out.2.2.1).mono ?_); rintro e w1 ⟨rfl, hb⟩; have HB1 := Lib.hid hb; clear hb)
            | (go_at_call 32; (with_reducible refine (KW.out q acc _ _ HH.out.2.2.2.2.1 HSZ.out (isF_below HH.out.2.1 HB1.out) (Nat.le_trans HH.out.2.2.1.size HB1.out.size)).mono ?_); rintro e w2 ⟨rfl, hI2, hb⟩; have HB2 := Lib.hid (And.intro hI2 hb); clear hI2 hb))
          obtain ⟨hp, hI, hbw, hsn, -, -, hm, hm1, hlt⟩ := HH.out
          exact ⟨⟨k + 1, p + 4, by omega, hlt, by go_num, by rw [hsn]; exact HB2.out.1, hbw.trans ((HB1.out.mono hbw.size).trans HB2.out.2)⟩, by simp [intOf]; omega⟩
        · obtain rfl : k = m := by omega
          obtain rfl : p = s.size := by omega
          rw [List.take_of_length_le (by omega)] at hI
          have KS2 := Lib.hid (KS.out _ wr hI hbw.size)
          have HBW := Lib.hid hbw
          rw [← HT0.out] at KS2
          clear hp hI hbw hz hm hm1 hlt hk
          go_wp2_with (go_at_call 34; (with_reducible refine KS2.out.mono ?_); rintro e w2 ⟨rfl, hb⟩; have HB2 := Lib.hid hb; clear hb)
          go_ret2
          exact ⟨rfl, HBW.out.trans HB2.out⟩
    · rw [if_neg h2, if_neg h2]
      have t1 : (((s.size : Int)).tmod 4 == 0) = false := by rw [Int.tmod_eq_emod_of_nonneg (by omega)]; simp; omega
      have t2 : (((s.size : Int)) % 4 == 0) = false := by simp; omega
      have t3 : ¬ (4096 : Int) < (s.size : Int) := by omega
      have e0 : Hid (str [] = ByteArray.empty) := Lib.hid rfl
      rw [e0.out]
      clear hL hsz h1 h2
      go_enter Tryd.func13, Tryd.ntmps13
      go_wp2
      go_ret2
      exact ⟨rfl, Below.refl _ _⟩
end Go.Proofs.YtmclcobklcjmnaaDoor
