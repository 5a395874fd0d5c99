/- The rows and numbers of the document's sum, and its loops taken out of its text. No conditions. -/
import Derived.Test.YtdkhnklggidfpaaReft
import Derived.StillTailTactics
import Derived.Deep.RegionHeld3
import Derived.Deep.DrawnRows

namespace Go.Proofs.Ytdkhnklggidfpaa
open Go.RowKit
set_option linter.unusedVariables false
attribute [local go_sem ↓] Go.wp_at_zero Go.wp_at_succ
/-- the state's numbers, the first k of them with the others added -/
def addK (s r : St) (k : Nat) : List Nat := (stL (sums s r)).take k ++ (stL s).drop k
theorem addK_len (s r : St) (k : Nat) : (addK s r k).length = 8 := by unfold addK; rw [List.length_append, List.length_take, List.length_drop, stL_len, stL_len]; omega
theorem addK_at (s r : St) (k : Nat) (h : k < 8) : (addK s r k).getD k 0 = (stL s).getD k 0 := by
  match k, h with
  | 0, _ => rfl
  | 1, _ => rfl
  | 2, _ => rfl
  | 3, _ => rfl
  | 4, _ => rfl
  | 5, _ => rfl
  | 6, _ => rfl
  | 7, _ => rfl
  | n + 8, h => omega
theorem addK_set (s r : St) (k : Nat) (h : k < 8) : (addK s r k).set k (add ((stL s).getD k 0) ((stL r).getD k 0)) = addK s r (k + 1) := by
  match k, h with
  | 0, _ => rfl
  | 1, _ => rfl
  | 2, _ => rfl
  | 3, _ => rfl
  | 4, _ => rfl
  | 5, _ => rfl
  | 6, _ => rfl
  | 7, _ => rfl
  | n + 8, h => omega
theorem addK_done (s r : St) : addK s r 8 = stL (sums s r) := rfl
theorem OwnM.text {w : World} {B : Nat} {v : Value} {l : List UInt8} (h : OwnM w B v l) : (convert 32 9 v).run Try.prog w = .ok (.string ⟨l.toArray⟩) w := by
  obtain ⟨g, cap, rfl, _, _, hc⟩ := h.slice
  refine run_convert_bytes_back (P := Try.prog) w 32 9 5 ⟨g, 0, none⟩ cap l Try.underlying32 Try.underlying5 Try.underlying9 (fun i hi => ?_)
  rw [addr_at, Nat.zero_add, hc i hi]
  simp [List.getD, List.getElem?_eq_getElem hi]
theorem OwnM.empty (w : World) : OwnM (w.alloc (.cells #[] 5)) w.heap.size (.slice (some ⟨w.heap.size, 0, none⟩) 0 0) [] :=
  ⟨w.heap.size, 0, #[], (0, 0), rfl, Nat.le_refl _, block_new _ _, .inl rfl, Nat.le_refl _, by decide, rfl, rfl⟩
theorem wstep2 (u x v y : Nat) (hx : x < 4294967296) (hy : y < 4294967296) :
    IntKind.u32.wrap (IntKind.u32.wrap (IntKind.u32.wrap ((u : Int) + bits BinOp.xor IntKind.u32 (bits BinOp.xor IntKind.u32 (ror x 7 : Nat) (ror x 18 : Nat)) ((x : Int) / 8)) + v) + bits BinOp.xor IntKind.u32 (bits BinOp.xor IntKind.u32 (ror y 17 : Nat) (ror y 19 : Nat)) ((y : Int) / 1024))
      = ((add (add (add u (s7 x)) v) (s17 y) : Nat) : Int) := by
  rw [← wstep u x v y hx hy, u32w, u32w, u32w]
  generalize bits BinOp.xor IntKind.u32 (bits BinOp.xor IntKind.u32 (ror x 7 : Nat) (ror x 18 : Nat)) ((x : Int) / 8) = p
  generalize bits BinOp.xor IntKind.u32 (bits BinOp.xor IntKind.u32 (ror y 17 : Nat) (ror y 19 : Nat)) ((y : Int) / 1024) = q
  omega
theorem teq2 (a b c d e f g h k w : Nat) (he : e < 4294967296) (hf : f < 4294967296) (hg : g < 4294967296) :
    (((h : Int) + bits BinOp.xor IntKind.u32 (bits BinOp.xor IntKind.u32 (ror e 6 : Nat) (ror e 11 : Nat)) (ror e 25 : Nat) +
      bits BinOp.xor IntKind.u32 (bits BinOp.and IntKind.u32 (e : Int) (f : Int))
        (bits BinOp.and IntKind.u32 (bits BinOp.xor IntKind.u32 4294967295 (e : Int)) (g : Int)) + (k : Int)) % 4294967296 + (w : Int)) % 4294967296
      = ((t1 ⟨a, b, c, d, e, f, g, h⟩ k w : Nat) : Int) := by
  have := teq a b c d e f g h k w he hf hg
  rw [show (if IntKind.u32.signed = true then (-1 : Int) else IntKind.u32.max) = 4294967295 by decide] at this
  exact this
theorem ueq2 (a b c : Nat) (ha : a < 4294967296) (hb : b < 4294967296) (hc : c < 4294967296) :
    (bits BinOp.xor IntKind.u32 (bits BinOp.xor IntKind.u32 (ror a 2 : Nat) (ror a 13 : Nat)) (ror a 22 : Nat) +
      bits BinOp.xor IntKind.u32 (bits BinOp.xor IntKind.u32 (bits BinOp.and IntKind.u32 (a : Int) (b : Int)) (bits BinOp.and IntKind.u32 (a : Int) (c : Int))) (bits BinOp.and IntKind.u32 (b : Int) (c : Int))) % 4294967296
      = ((add (s2 a) (maj a b c) : Nat) : Int) := by
  rw [and32 _ _ ha hb, and32 _ _ ha hc, and32 _ _ hb hc, xor32 _ _ (and_lt _ ha) (and_lt _ ha), xor32 _ _ (xor_lt (and_lt _ ha) (and_lt _ ha)) (and_lt _ hb), xor32 _ _ (ror_lt _ ha) (ror_lt _ ha), xor32 _ _ (xor_lt (ror_lt _ ha) (ror_lt _ ha)) (ror_lt _ ha)]
  show (((s2 a : Nat) : Int) + (maj a b c : Nat)) % 4294967296 = _
  unfold add
  generalize s2 a = p
  generalize maj a b c = q
  omega
theorem rror_lit (x n : Nat) (c : Int) (hc : c = (n : Int)) (hx : x < 4294967296) (h1 : 1 ≤ n) (h2 : n ≤ 31) (w : World) :
    Calls Try.prog 38 #[.int .u32 (x : Nat), .int .i64 c] w fun e w' => e = .returned (.int .u32 (ror x n : Nat)) ∧ ∃ k, w' = w.drewN k := by
  subst hc
  exact rror_any x n hx h1 h2 w


/-- the bodies of the loops in a code, in the text's order, the outer ahead of the inner -/
def loopsIn : Code → List Code
  | .loop c => c :: loopsIn c
  | .seq a b => loopsIn a ++ loopsIn b
  | .block _ c => loopsIn c
  | .scope c => loopsIn c
  | .cond _ a b => loopsIn a ++ loopsIn b
  | _ => []
noncomputable def sumLoop (k : Nat) : Code := (loopsIn (Try.f25.body.getD .skip)).getD k .skip
end Go.Proofs.Ytdkhnklggidfpaa
