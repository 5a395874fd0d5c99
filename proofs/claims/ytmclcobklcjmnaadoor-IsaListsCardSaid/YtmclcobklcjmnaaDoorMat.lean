/- Instructions as numbers, bytes and text: nothing of the program. No conditions. -/
import Derived.RowKit
import Derived.Lib.ItoaNum
import Derived.Lib.AtoiAll
import Derived.Lib.ParseIntB
namespace Go.Proofs.YtmclcobklcjmnaaDoor
set_option linter.unusedVariables false

abbrev Bs := List UInt8
def str (l : Bs) : ByteArray := ⟨l.toArray⟩
theorem str_list (l : Bs) : (str l).data.toList = l := by simp [str]
theorem str_toList (s : ByteArray) : str s.data.toList = s := by cases s; simp [str]
theorem str_size (l : Bs) : (str l).size = l.length := by simp [str, ByteArray.size]
theorem str_add (a b : Bs) : str (a ++ b) = str a ++ str b := by
  apply ByteArray.ext
  simp [str]
theorem str_inj {a b : Bs} (h : str a = str b) : a = b := by rw [← str_list a, ← str_list b, h]
/-- an instruction -/
structure In where
  op : Int
  a : Int
  b : Int
  imm : Int
def nams : List Bs := [[110, 111, 112], [115, 116, 111, 112], [115, 101, 116], [104, 105, 103, 104], [109, 111, 118, 101], [97, 100, 100], [115, 117, 98], [109, 117, 108], [100, 105, 118], [114, 101, 109], [97, 110, 100], [111, 114], [120, 111, 114], [110, 111, 116], [115, 104, 108], [115, 104, 114], [108, 101, 115, 115], [98, 101, 108, 111, 119], [115, 97, 109, 101], [112, 108, 117, 115], [103, 101, 116, 49], [103, 101, 116, 52], [112, 117, 116, 49], [112, 117, 116, 52], [106, 117, 109, 112], [122, 101, 114, 111], [115, 111, 109, 101], [116, 111], [99, 97, 108, 108], [97, 115, 107]]
def frms : List Nat := [0, 0, 5, 5, 3, 3, 3, 3, 3, 3, 3, 3, 3, 1, 3, 3, 3, 3, 3, 9, 7, 7, 7, 7, 8, 9, 9, 1, 9, 4]
def nam (op : Int) : Bs := nams.getD op.toNat []
def frm (op : Int) : Nat := frms.getD op.toNat 0
def isOp (op : Int) : Bool := decide (0 ≤ op) && decide (op < 30)
def hasF (f p : Nat) : Bool := !(f &&& p == 0)
def mayN (f p : Nat) (n : Int) : Bool := if hasF f p then decide (0 ≤ n) && decide (n < 16) else decide (n = 0)
def leastF (f : Nat) : Int := if hasF f 4 then 0 else if hasF f 8 then -32768 else 0
def mostF (f : Nat) : Int := if hasF f 4 then 65535 else if hasF f 8 then 32767 else 0
def fitsF (f : Nat) (i : In) : Bool := mayN f 1 i.a && mayN f 2 i.b && decide (leastF f ≤ i.imm) && decide (i.imm ≤ mostF f)
/-- may it be? -/
def okI (i : In) : Bool := isOp i.op && fitsF (frm i.op) i
def zeroI : In := ⟨0, 0, 0, 0⟩
def encI (i : In) : Bs := [UInt8.ofNat i.op.toNat, UInt8.ofNat (16 * i.a + i.b).toNat, UInt8.ofNat (i.imm % 65536 / 256).toNat, UInt8.ofNat (i.imm % 256).toNat]
def rawI (b0 b1 b2 b3 : Nat) : In := ⟨b0, (b1 / 16 : Nat), (b1 % 16 : Nat), if hasF (frm b0) 8 ∧ 32768 ≤ 256 * b2 + b3 then 256 * (b2 : Int) + b3 - 65536 else 256 * (b2 : Int) + b3⟩
def decI (b0 b1 b2 b3 : Nat) : Option In := if okI (rawI b0 b1 b2 b3) then some (rawI b0 b1 b2 b3) else none
def decS : Bs → Option In
  | [b0, b1, b2, b3] => decI b0.toNat b1.toNat b2.toNat b3.toNat
  | _ => none
def regS (n : Int) : Bs := [32, 114] ++ Lib.itoa n
def prnI (i : In) : Bs := nam i.op ++ (if hasF (frm i.op) 1 then regS i.a else []) ++ (if hasF (frm i.op) 2 then regS i.b else []) ++ (if hasF (frm i.op) 12 then [32] ++ Lib.itoa i.imm else [])
/-- the first name that it is -/
def numF : List Bs → Nat → Bs → Option Nat
  | [], _, _ => none
  | x :: l, k, s => if x = s then some k else numF l (k + 1) s
def numP (s : Bs) : Option Nat := numF nams 0 s
/-- ahead of the first c; behind it; is there one? -/
def cutB (c : UInt8) : Bs → Bs × Bs × Bool
  | [] => ([], [], false)
  | x :: l => if x = c then ([], l, true) else (x :: (cutB c l).1, (cutB c l).2.1, (cutB c l).2.2)
def numE : Lib.NumEnd Int → Option Int
  | .ok v => some v
  | _ => none
theorem cutB_len (c : UInt8) : ∀ l, (cutB c l).2.2 = true → (cutB c l).2.1.length < l.length
  | [], h => by simp [cutB] at h
  | x :: l, h => by
    unfold cutB at h ⊢
    by_cases e : x = c
    · rw [if_pos e]; simp
    · rw [if_neg e] at h ⊢
      have := cutB_len c l h
      simp only [List.length_cons]
      omega
/-- one word: how many registers stand ahead of it -/
def wordI (w : Bs) (k : Nat) (i : In) : Option (Nat × In) :=
  if w.head? = some 114 ∧ k < 2 then (numE (Lib.atoiAll w.tail)).map fun n => (k + 1, if k = 0 then { i with a := n } else { i with b := n })
  else (numE (Lib.atoiAll w)).map fun n => (k, { i with imm := n })
/-- the words behind the name -/
def rdW (rest : Bs) (k : Nat) (i : In) : Option In :=
  match wordI (cutB 32 rest).1 k i with
  | none => none
  | some x => if h : (cutB 32 rest).2.2 = true then rdW (cutB 32 rest).2.1 x.1 x.2 else some x.2
termination_by rest.length
decreasing_by exact cutB_len 32 rest h
def readP (s : Bs) : Option In :=
  match numP (cutB 32 s).1 with
  | none => none
  | some op => if (cutB 32 s).2.2 then rdW (cutB 32 s).2.1 0 ⟨op, 0, 0, 0⟩ else some ⟨op, 0, 0, 0⟩
/-- the instruction of a text -/
def parP (s : Bs) : Option In :=
  match readP s with
  | none => none
  | some i => if okI i = true ∧ prnI i = s then some i else none

theorem okI_iff (i : In) : okI i = true ↔ (0 ≤ i.op ∧ i.op < 30) ∧ fitsF (frm i.op) i = true := by simp [okI, isOp, and_assoc]
theorem ops_all (p : Int → Prop) (h : ∀ k : Fin 30, p (k.val : Int)) (op : Int) (h0 : 0 ≤ op) (h1 : op < 30) : p op := by
  have := h ⟨op.toNat, by omega⟩
  rwa [show ((⟨op.toNat, by omega⟩ : Fin 30).val : Int) = op from by simp; omega] at this
theorem fits_iff (f : Nat) (i : In) : fitsF f i = true ↔ mayN f 1 i.a = true ∧ mayN f 2 i.b = true ∧ leastF f ≤ i.imm ∧ i.imm ≤ mostF f := by simp [fitsF, and_assoc]
theorem mayN_iff (f p : Nat) (n : Int) : mayN f p n = true ↔ (if hasF f p = true then 0 ≤ n ∧ n < 16 else n = 0) := by
  unfold mayN
  split <;> simp
theorem mayN_range {f p : Nat} {n : Int} (h : mayN f p n = true) : 0 ≤ n ∧ n < 16 := by
  rw [mayN_iff] at h
  split at h <;> omega
theorem imm_range {f : Nat} {i : In} (h : fitsF f i = true) : -32768 ≤ i.imm ∧ i.imm ≤ 65535 := by
  rw [fits_iff] at h
  obtain ⟨_, _, h1, h2⟩ := h
  unfold leastF at h1
  unfold mostF at h2
  split at h1 <;> split at h2 <;> (try split at h1) <;> (try split at h2) <;> omega
/-- what is read of its bytes -/
theorem raw_enc (i : In) (h : okI i = true) : rawI (UInt8.ofNat i.op.toNat).toNat (UInt8.ofNat (16 * i.a + i.b).toNat).toNat (UInt8.ofNat (i.imm % 65536 / 256).toNat).toNat (UInt8.ofNat (i.imm % 256).toNat).toNat = i := by
  rw [okI_iff] at h
  obtain ⟨⟨h0, h1⟩, hf⟩ := h
  have hi := imm_range hf
  rw [fits_iff] at hf
  obtain ⟨ha, hb, hl, hm⟩ := hf
  have ra := mayN_range ha
  have rb := mayN_range hb
  obtain ⟨op, a, b, imm⟩ := i
  dsimp only at *
  have e0 : (UInt8.ofNat op.toNat).toNat = op.toNat := by simp; omega
  have e1 : (UInt8.ofNat (16 * a + b).toNat).toNat = (16 * a + b).toNat := by simp; omega
  have e2 : (UInt8.ofNat (imm % 65536 / 256).toNat).toNat = (imm % 65536 / 256).toNat := by simp; omega
  have e3 : (UInt8.ofNat (imm % 256).toNat).toNat = (imm % 256).toNat := by simp; omega
  rw [e0, e1, e2, e3]
  unfold rawI
  rw [show ((op.toNat : Nat) : Int) = op from by omega]
  have eA : (((16 * a + b).toNat / 16 : Nat) : Int) = a := by omega
  have eB : (((16 * a + b).toNat % 16 : Nat) : Int) = b := by omega
  rw [eA, eB]
  have : (if hasF (frm op) 8 = true ∧ 32768 ≤ 256 * (imm % 65536 / 256).toNat + (imm % 256).toNat then 256 * (((imm % 65536 / 256).toNat : Nat) : Int) + (((imm % 256).toNat : Nat) : Int) - 65536 else 256 * (((imm % 65536 / 256).toNat : Nat) : Int) + (((imm % 256).toNat : Nat) : Int)) = imm := by
    have h48 : hasF (frm op) 4 = true → hasF (frm op) 8 = false := by
      revert h0 h1
      exact fun h0 h1 => ops_all (fun op => hasF (frm op) 4 = true → hasF (frm op) 8 = false) (by decide +kernel) op h0 h1
    unfold leastF at hl
    unfold mostF at hm
    by_cases h8 : hasF (frm op) 8 = true
    · have h4 : ¬ hasF (frm op) 4 = true := fun e => by rw [h48 e] at h8; cases h8
      rw [if_neg h4, if_pos h8] at hl hm
      by_cases hn : imm < 0
      · rw [if_pos ⟨h8, by omega⟩]; omega
      · rw [if_neg (fun e => by have := e.2; omega)]; omega
    · rw [if_neg (fun e => h8 e.1)]
      by_cases h4 : hasF (frm op) 4 = true
      · rw [if_pos h4] at hl hm; omega
      · rw [if_neg h4, if_neg h8] at hl hm; omega
  rw [this]
theorem dec_enc (i : In) (h : okI i = true) : decS (encI i) = some i := by
  unfold decS encI decI
  dsimp only
  rw [raw_enc i h, if_pos h]
theorem dec_some {s : Bs} {i : In} (h : decS s = some i) : okI i = true ∧ encI i = s := by
  unfold decS at h
  split at h
  case h_2 => cases h
  case h_1 b0 b1 b2 b3 =>
    unfold decI at h
    split at h
    case isFalse => cases h
    case isTrue hok =>
      obtain rfl := Option.some.inj h
      refine ⟨hok, ?_⟩
      have t0 := b0.toNat_lt
      have t1 := b1.toNat_lt
      have t2 := b2.toNat_lt
      have t3 := b3.toNat_lt
      unfold encI rawI
      dsimp only
      have x0 : UInt8.ofNat ((b0.toNat : Int)).toNat = b0 := by simp
      have x1 : UInt8.ofNat (16 * ((b1.toNat / 16 : Nat) : Int) + ((b1.toNat % 16 : Nat) : Int)).toNat = b1 := by
        rw [show (16 * ((b1.toNat / 16 : Nat) : Int) + ((b1.toNat % 16 : Nat) : Int)).toNat = b1.toNat from by omega]; simp
      rw [x0, x1]
      generalize hI : (if hasF (frm b0.toNat) 8 = true ∧ 32768 ≤ 256 * b2.toNat + b3.toNat then 256 * (b2.toNat : Int) + b3.toNat - 65536 else 256 * (b2.toNat : Int) + b3.toNat) = I
      have hI2 : I = 256 * (b2.toNat : Int) + b3.toNat ∨ I = 256 * (b2.toNat : Int) + b3.toNat - 65536 := by rw [← hI]; split <;> simp
      have x2 : UInt8.ofNat (I % 65536 / 256).toNat = b2 := by
        rw [show (I % 65536 / 256).toNat = b2.toNat from by omega]; simp
      have x3 : UInt8.ofNat (I % 256).toNat = b3 := by
        rw [show (I % 256).toNat = b3.toNat from by omega]; simp
      rw [x2, x3]
theorem dec_len {s : Bs} {i : In} (h : decS s = some i) : s.length = 4 := by
  unfold decS at h
  split at h
  · rfl
  · cases h
theorem enc_len (i : In) : (encI i).length = 4 := rfl
end Go.Proofs.YtmclcobklcjmnaaDoor
