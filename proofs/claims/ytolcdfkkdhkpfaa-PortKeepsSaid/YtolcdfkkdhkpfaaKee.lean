/- A queuing port against the messages that went in. Conditions: no list is longer than a machine holds. -/
import Derived.Test.YtolcdfkkdhkpfaaSam
namespace Go.Proofs.Ytolcdfkkdhkpfaa
open Go.RowKit Go.Maps Go.Sort Go.Lib
set_option linter.unusedVariables false
set_option linter.unusedSimpArgs false

set_option maxHeartbeats 4000000 in
theorem keeps_no (w : World) (c : Cf) (v1 : Value) (hc : ¬ okC (c.of 1)) : Calls Try.prog 6 #[c.agg, v1] w fun e w' => e = .returned (.bool true) ∧ Below w.heap.size w w' := by
  have K7 : Hid (∀ W, Calls Try.prog 7 #[.agg #[.int .i64 1, .int .i64 c.frm, .int .i64 c.to, .int .i64 c.size, .int .i64 c.dep]] W fun e w' => e = .returned (.tuple #[.pointer none, .int .i64 140]) ∧ Below W.heap.size W w') := Lib.hid fun W => new_no W (c.of 1) hc
  have K21 : Hid (∀ W, Calls Try.prog 21 #[.agg #[.int .i64 1, .int .i64 c.frm, .int .i64 c.to, .int .i64 c.size, .int .i64 c.dep]] W fun e w' => e = .returned (.int .i64 140) ∧ Below W.heap.size W w') := Lib.hid fun W => by
    have := rcheck_any W (c.of 1)
    rw [show chkE (c.of 1) = 140 from if_neg hc] at this
    exact this
  have KF : Hid (∀ W, Calls Try.prog 10 #[] W fun e w' => e = .returned (.bool true) ∧ Below W.heap.size W w') := Lib.hid fixed_any
  have hB : Below w.heap.size w (w.alloc (.cells #[.int .i64 1, .int .i64 c.frm, .int .i64 c.to, .int .i64 c.size, .int .i64 c.dep] 23)) := (Below.refl _ w).alloc (Nat.le_refl _) _
  have HB := Lib.hid hB
  have HN := Lib.hid (block_new w (.cells #[.int .i64 1, .int .i64 c.frm, .int .i64 c.to, .int .i64 c.size, .int .i64 c.dep] 23))
  have HX : Hid (∀ W, Below (w.alloc (.cells #[.int .i64 1, .int .i64 c.frm, .int .i64 c.to, .int .i64 c.size, .int .i64 c.dep] 23)).heap.size (w.alloc (.cells #[.int .i64 1, .int .i64 c.frm, .int .i64 c.to, .int .i64 c.size, .int .i64 c.dep] 23)) W →
      W.cell? ⟨w.heap.size, 0, none⟩ = some (.int .i64 1) ∧ W.cell? ⟨w.heap.size, 1, none⟩ = some (.int .i64 c.frm) ∧ W.cell? ⟨w.heap.size, 2, none⟩ = some (.int .i64 c.to) ∧ W.cell? ⟨w.heap.size, 3, none⟩ = some (.int .i64 c.size) ∧ W.cell? ⟨w.heap.size, 4, none⟩ = some (.int .i64 c.dep)) := Lib.hid fun W hW => by
    have hp := (hW.block _ (block_lt HN.out)).trans HN.out
    refine ⟨?_, ?_, ?_, ?_, ?_⟩ <;> (rw [cell_of_row _ _ _ _ _ _ hp]; rfl)
  clear hB hc
  unfold Cf.agg
  go_enter Try.func6, Try.ntmps6
  go_wp2_with (first
    | (go_at_call 7; refine (K7.out (w.alloc (.cells #[.int .i64 1, .int .i64 c.frm, .int .i64 c.to, .int .i64 c.size, .int .i64 c.dep] 23))).mono ?_; rintro e w1 ⟨rfl, hb⟩; obtain ⟨x0, x1, x2, x3, x4⟩ := HX.out w1 hb; have H1 := Lib.hid (HB.out.trans (hb.mono HB.out.size)); clear hb)
    | (go_at_call 21; refine (K21.out w1).mono ?_; rintro e w2 ⟨rfl, hb⟩; have H2 := Lib.hid (H1.out.trans (hb.mono H1.out.size)); clear hb)
    | (go_at_call 10; refine (KF.out _).mono ?_; rintro e w3 ⟨rfl, hb⟩; have H3 := Lib.hid (H2.out.trans (hb.mono H2.out.size)); clear hb))
  go_ret
  exact ⟨rfl, H3.out⟩
/-- a port, and beside it a row of messages -/
def Kee (W1 : World) (k : Nat) (W : World) (p : Nat) (s : Po) (S : List ByteArray) (sv : Value) : Prop :=
  ∃ F : Nat → Prop, (∀ j, F j → W1.heap.size ≤ j ∧ j < W.heap.size) ∧ IsP W F p s ∧ Below W1.heap.size W1 W ∧ s.ok ∧ s.lost ≤ k ∧ W.ownsRow W1.heap.size 9 1 sv S.length (S.map .string) ∧ ∀ j, sv.ownBlock = some j → ¬ F j
theorem Kee.bel {W1 : World} {k : Nat} {W : World} {p : Nat} {s : Po} {S : List ByteArray} {sv : Value} (h : Kee W1 k W p s S sv) : Below W1.heap.size W1 W := by
  obtain ⟨F, a, b, c, d, e, f, g⟩ := h; exact c
theorem Kee.ok {W1 : World} {k : Nat} {W : World} {p : Nat} {s : Po} {S : List ByteArray} {sv : Value} (h : Kee W1 k W p s S sv) : s.ok := by
  obtain ⟨F, a, b, c, d, e, f, g⟩ := h; exact d
theorem Kee.lost {W1 : World} {k : Nat} {W : World} {p : Nat} {s : Po} {S : List ByteArray} {sv : Value} (h : Kee W1 k W p s S sv) : s.lost ≤ k := by
  obtain ⟨F, a, b, c, d, e, f, g⟩ := h; exact e
theorem Kee.row {W1 : World} {k : Nat} {W : World} {p : Nat} {s : Po} {S : List ByteArray} {sv : Value} (h : Kee W1 k W p s S sv) : W.ownsRow W1.heap.size 9 1 sv S.length (S.map .string) := by
  obtain ⟨F, a, b, c, d, e, f, g⟩ := h; exact f
theorem Kee.next {W1 : World} {k : Nat} {W : World} {p : Nat} {s : Po} {S : List ByteArray} {sv : Value} (h : Kee W1 k W p s S sv) : Kee W1 (k + 1) W p s S sv := by
  obtain ⟨F, a, b, c, d, e, f, g⟩ := h; exact ⟨F, a, b, c, d, by omega, f, g⟩
theorem Kee.below {W1 : World} {k : Nat} {W W' : World} {p : Nat} {s : Po} {S : List ByteArray} {sv : Value} (h : Kee W1 k W p s S sv) (hb : Below W.heap.size W W') : Kee W1 k W' p s S sv := by
  obtain ⟨F, a, b, c, d, e, f, g⟩ := h
  exact ⟨F, fun j hj => ⟨(a j hj).1, Nat.lt_of_lt_of_le (a j hj).2 hb.size⟩, b.below hb, c.trans (hb.mono c.size), d, e, own_below f hb, g⟩
theorem Kee.len {W1 : World} {k : Nat} {W : World} {p : Nat} {s : Po} {S : List ByteArray} {sv : Value} (h : Kee W1 k W p s S sv) : Calls Try.prog 20 #[.pointer (some ⟨p, 0, none⟩)] W fun e w' => e = .returned (.int .i64 (s.l.length : Int)) ∧ W = w' := by
  obtain ⟨F, a, b, c, d, e, f, g⟩ := h; exact len_any W F p s b
theorem Kee.tak {W1 W W' : World} {k k' : Nat} {p : Nat} {s s' : Po} {S : List ByteArray} {sv : Value} {v : Value} {P : Nat} {args : Array Value} (h : Kee W1 k W p s S sv) (hb : Below W.heap.size W W') (ho : s'.ok) (hl : s'.lost ≤ k')
    (hc : ∀ F, IsP W' F p s → Calls Try.prog P args W' (TakP W' F p v s')) :
    Calls Try.prog P args W' fun e w' => e = .returned v ∧ (∀ b, W.heap.size ≤ b → b < W'.heap.size → w'.heap[b]? = W'.heap[b]?) ∧ Kee W1 k' w' p s' S sv := by
  obtain ⟨F, h1, h2, h3, h4, h5, h6, h7⟩ := h
  have h6' := own_below h6 hb
  refine (hc F (h2.below hb)).mono fun e w' x => ⟨x.1, fun b b1 b2 => x.2.2.block b b2 (fun q => by have := (h1 b q).2; omega), nw F W' w', fun j hj => ?_, x.2.1, (h3.trans (hb.mono h3.size)).trans (x.2.2.below (Nat.le_trans h3.size hb.size) fun j hj => (h1 j hj).1), ho, hl, own_keep h6' fun j hj ht => x.2.2.block j ht.lt (h7 j hj), fun j hj hn => ?_⟩
  · rcases hj with hj | hj
    · exact ⟨(h1 j hj).1, Nat.lt_of_lt_of_le (h1 j hj).2 (Nat.le_trans hb.size x.2.2.size)⟩
    · exact ⟨Nat.le_trans (Nat.le_trans h3.size hb.size) hj.1, hj.2⟩
  · rcases hn with hn | hn
    · exact h7 j hj hn
    · have := (own_ty h6' j hj).1.lt; omega
theorem Kee.app {W1 W : World} {k : Nat} {p : Nat} {s : Po} {S : List ByteArray} {sv : Value} (h : Kee W1 k W p s S sv) (hl : S.length ≤ 8796093022206) (m : ByteArray) :
    ∃ q' n' cap' W', (Builtin.append_ #[45, 45] 45 #[sv, .slice (some ⟨W.heap.size, 0, none⟩) 1 1]).run Try.prog (W.alloc (.cells #[.string m] 9)) = .ok (.slice q' n' cap') W' ∧ n' = S.length + 1 ∧ Kee W1 k W' p s (S ++ [m]) (.slice q' n' cap') := by
  obtain ⟨i9, hi, hz0, hz1, hz2⟩ := info_parts Try.info9
  have hb : Below W.heap.size W (W.alloc (.cells #[.string m] 9)) := (Below.refl _ W).alloc (Nat.le_refl _) _
  have hn := block_new W (.cells #[.string m] 9)
  obtain ⟨F, h1, h2, h3, h4, h5, h6, h7⟩ := h.below hb
  have hF : ∀ j, F j → j < W.heap.size ∨ True := fun _ _ => .inr trivial
  obtain ⟨v', W', hr, hown, hgr, _, hob⟩ := run_append_own_at (P := Try.prog) (w := W.alloc (.cells #[.string m] 9)) W1.heap.size 45 45 9 i9 (.string ByteArray.empty) 1 16 Try.underlying45 hi hz0 hz1 hz2 rfl (by decide) _ _ _ h6 ⟨W.heap.size, 0, none⟩ 1 1 [.string m] rfl (by
    intro j u hu
    rw [addr_at, Nat.zero_add, cell_of_row _ _ _ _ _ _ hn]
    rw [← hu]; exact (List.getElem?_toArray ..)) (by intro u hu; simp at hu; subst hu; rfl) (by unfold maxLen; omega) (by omega) h3.size
  obtain ⟨q', cap', rfl, _⟩ := own_slice hown
  refine ⟨q', _, cap', W', hr, rfl, F, fun j hj => ⟨(h1 j hj).1, Nat.lt_of_lt_of_le (h1 j hj).2 hgr.size⟩, h2.keep fun j hj hF => hgr.block j hj (fun e => h7 j e.symm hF), h3.grown hgr h3.size (fun j hj => (own_ty h6 j hj).2), h4, h5, by rw [show (S ++ [m]).length = S.length + 1 by simp, List.map_append]; exact hown, fun j hj hF => ?_⟩
  rcases hob with e | e
  · rw [e] at hj; exact h7 j hj hF
  · rw [e] at hj; injection hj with hj; subst hj; have := (h1 _ hF).2; omega
theorem Kee.new {w W1 w2 : World} {p : Nat} {s : Po} (h : Own W1 0 w2 p s) : Kee W1 0 (w2.alloc (.cells #[] 9)) p s [] (.slice (some ⟨w2.heap.size, 0, none⟩) 0 0) := by
  have hok := h.ok
  have hb : Below w2.heap.size w2 (w2.alloc (.cells #[] 9)) := (Below.refl _ w2).alloc (Nat.le_refl _) _
  obtain ⟨F, h1, h2, h3, h4, h5⟩ := h
  have h2' : IsP w2 (fun j => F j ∧ j < w2.heap.size) p s := h2.mono fun j hj hF => ⟨hF, hj⟩
  refine ⟨_, fun j hj => ⟨h1 j hj.1, Nat.lt_of_lt_of_le hj.2 hb.size⟩, h2'.below hb, h3.trans (hb.mono h3.size), hok, h5, ⟨rfl, .inr ⟨w2.heap.size, 0, #[], rfl, h3.size, block_new _ _, Nat.le_refl _, Nat.zero_le _, rfl, rfl⟩⟩, fun j hj hF => ?_⟩
  injection hj with hj
  subst hj
  exact absurd hF.2 (Nat.lt_irrefl _)
/-- the counts -/
structure KeR (c : Cf) (k : Nat) (s : Po) (S : List ByteArray) (all out told : Nat) : Prop where
  kind : s.kind = 1
  size : s.size = c.size
  dep : (s.dep : Int) = c.dep
  hout : out ≤ S.length
  hl : s.l = S.drop out
  hall : all = out + s.l.length + told + s.lost
  hk : all ≤ k
  hlen : S.length ≤ k
theorem KeR.full {c : Cf} {k : Nat} {s : Po} {S : List ByteArray} {all out told : Nat} (h : KeR c k s S all out told) : KeR c (k + 1) { s with lost := s.lost + 1 } S (all + 1) out told := by
  obtain ⟨h1, h2, h3, h4, h5, h6, h7, h8⟩ := h
  refine ⟨h1, h2, h3, h4, h5, ?_, ?_, ?_⟩
  · show all + 1 = out + s.l.length + told + (s.lost + 1)
    rw [h6]; omega
  · omega
  · omega
theorem KeR.stay {c : Cf} {k : Nat} {s : Po} {S : List ByteArray} {all out told : Nat} (h : KeR c k s S all out told) : KeR c (k + 1) s S all out told := by
  obtain ⟨h1, h2, h3, h4, h5, h6, h7, h8⟩ := h
  exact ⟨h1, h2, h3, h4, h5, h6, Nat.le_succ_of_le h7, Nat.le_succ_of_le h8⟩
theorem KeR.recv {c : Cf} {k : Nat} {s : Po} {S : List ByteArray} {all out told : Nat} (h : KeR c k s S all out told) {m0 : ByteArray} {l0 : List ByteArray} (hl0 : s.l = m0 :: l0) : KeR c (k + 1) { s with l := l0, lost := 0 } S all (out + 1) (told + s.lost) := by
  obtain ⟨h1, h2, h3, h4, h5, h6, h7, h8⟩ := h
  have hdr : S.drop out = m0 :: l0 := by rw [← h5, hl0]
  have hlt : out < S.length := by
    have := congrArg List.length hdr
    rw [List.length_drop] at this
    simp at this; omega
  have hdr2 : l0 = S.drop (out + 1) := by
    have := congrArg List.tail hdr
    rw [List.tail_drop] at this
    exact this.symm
  have hn : s.l.length = l0.length + 1 := by rw [hl0]; rfl
  refine ⟨h1, h2, h3, hlt, hdr2, ?_, Nat.le_succ_of_le h7, Nat.le_succ_of_le h8⟩
  show all = out + 1 + l0.length + (told + s.lost) + 0
  rw [h6, hn]; omega
theorem KeR.app {c : Cf} {k : Nat} {s : Po} {S : List ByteArray} {all out told : Nat} (h : KeR c k s S all out told) (m : ByteArray) : KeR c (k + 1) { s with l := s.l ++ [m] } (S ++ [m]) (all + 1) out told := by
  obtain ⟨h1, h2, h3, h4, h5, h6, h7, h8⟩ := h
  refine ⟨h1, h2, h3, ?_, ?_, ?_, ?_, ?_⟩
  · rw [List.length_append]; omega
  · show s.l ++ [m] = (S ++ [m]).drop out
    rw [List.drop_append_of_le_length h4, h5]
  · show all + 1 = out + (s.l ++ [m]).length + told + s.lost
    rw [List.length_append, h6, List.length_singleton]; omega
  · omega
  · rw [List.length_append, List.length_singleton]; omega
theorem i64z {x y : Int} (e : x = y) (h : 0 ≤ y) (h2 : y ≤ 9007199254740992) : IntKind.i64.wrap x = y ∧ wrap64 x = y := by
  subst e; exact ⟨IntWalk.i64_in _ (by omega), w64 (by omega)⟩
theorem KeR.bnd {c : Cf} {k : Nat} {s : Po} {S : List ByteArray} {all out told : Nat} (h : KeR c k s S all out told) (hk : k ≤ 4398046511104) : out ≤ 4398046511104 ∧ told + s.lost ≤ 4398046511104 ∧ all ≤ 4398046511104 ∧ s.lost ≤ 4398046511104 ∧ S.length ≤ 4398046511104 ∧ S.length = out + s.l.length := by
  obtain ⟨h1, h2, h3, h4, h5, h6, h7, h8⟩ := h
  have h9 : s.l.length = S.length - out := by rw [h5]; exact List.length_drop
  clear h1 h2 h3 h5
  exact ⟨by omega, by omega, by omega, by omega, by omega, by omega⟩
theorem KeR.n1 {c : Cf} {k : Nat} {s : Po} {S : List ByteArray} {all out told : Nat} (h : KeR c k s S all out told) (hk : k ≤ 4398046511104) : IntKind.i64.wrap ((out : Int) + 1) = (out : Int) + 1 ∧ wrap64 ((out : Int) + 1) = (out : Int) + 1 := by
  obtain ⟨b1, b2, b3, b4, b5, b6⟩ := h.bnd hk; clear h; exact i64z rfl (by omega) (by omega)
theorem KeR.n2 {c : Cf} {k : Nat} {s : Po} {S : List ByteArray} {all out told : Nat} (h : KeR c k s S all out told) (hk : k ≤ 4398046511104) : IntKind.i64.wrap ((told : Int) + (s.lost : Int)) = (told : Int) + (s.lost : Int) ∧ wrap64 ((told : Int) + (s.lost : Int)) = (told : Int) + (s.lost : Int) := by
  obtain ⟨b1, b2, b3, b4, b5, b6⟩ := h.bnd hk; clear h; exact i64z rfl (by omega) (by omega)
theorem KeR.n3 {c : Cf} {k : Nat} {s : Po} {S : List ByteArray} {all out told : Nat} (h : KeR c k s S all out told) (hk : k ≤ 4398046511104) : IntKind.i64.wrap ((all : Int) + 1) = (all : Int) + 1 ∧ wrap64 ((all : Int) + 1) = (all : Int) + 1 := by
  obtain ⟨b1, b2, b3, b4, b5, b6⟩ := h.bnd hk; clear h; exact i64z rfl (by omega) (by omega)
theorem KeR.n4 {c : Cf} {k : Nat} {s : Po} {S : List ByteArray} {all out told : Nat} (h : KeR c k s S all out told) (hk : k ≤ 4398046511104) : IntKind.i64.wrap ((s.lost : Int) + 1) = (s.lost : Int) + 1 ∧ wrap64 ((s.lost : Int) + 1) = (s.lost : Int) + 1 := by
  obtain ⟨b1, b2, b3, b4, b5, b6⟩ := h.bnd hk; clear h; exact i64z rfl (by omega) (by omega)
theorem KeR.n5 {c : Cf} {k : Nat} {s : Po} {S : List ByteArray} {all out told : Nat} (h : KeR c k s S all out told) (hk : k ≤ 4398046511104) : IntKind.i64.wrap ((S.length : Int) - (out : Int)) = ((s.l.length : Nat) : Int) ∧ wrap64 ((S.length : Int) - (out : Int)) = ((s.l.length : Nat) : Int) := by
  obtain ⟨b1, b2, b3, b4, b5, b6⟩ := h.bnd hk; clear h; exact i64z (by omega) (by omega) (by omega)
theorem KeR.n6 {c : Cf} {k : Nat} {s : Po} {S : List ByteArray} {all out told : Nat} (h : KeR c k s S all out told) (hk : k ≤ 4398046511104) : IntKind.i64.wrap ((S.length : Int) + 1 - (out : Int)) = (s.l.length : Int) + 1 ∧ wrap64 ((S.length : Int) + 1 - (out : Int)) = (s.l.length : Int) + 1 := by
  obtain ⟨b1, b2, b3, b4, b5, b6⟩ := h.bnd hk; clear h; exact i64z (by omega) (by omega) (by omega)
theorem KeR.n7 {c : Cf} {k : Nat} {s : Po} {S : List ByteArray} {all out told : Nat} (h : KeR c k s S all out told) (hk : k ≤ 4398046511104) : IntKind.i64.wrap ((out : Int) + ((s.l.length : Nat) : Int)) = (out : Int) + ((s.l.length : Nat) : Int) ∧ wrap64 ((out : Int) + ((s.l.length : Nat) : Int)) = (out : Int) + ((s.l.length : Nat) : Int) := by
  obtain ⟨b1, b2, b3, b4, b5, b6⟩ := h.bnd hk; clear h; exact i64z rfl (by omega) (by omega)
theorem KeR.n8 {c : Cf} {k : Nat} {s : Po} {S : List ByteArray} {all out told : Nat} (h : KeR c k s S all out told) (hk : k ≤ 4398046511104) : IntKind.i64.wrap ((out : Int) + ((s.l.length : Nat) : Int) + (told : Int)) = (out : Int) + ((s.l.length : Nat) : Int) + (told : Int) ∧ wrap64 ((out : Int) + ((s.l.length : Nat) : Int) + (told : Int)) = (out : Int) + ((s.l.length : Nat) : Int) + (told : Int) := by
  obtain ⟨b1, b2, b3, b4, b5, b6⟩ := h.bnd hk; clear h; exact i64z rfl (by omega) (by omega)
theorem KeR.n9 {c : Cf} {k : Nat} {s : Po} {S : List ByteArray} {all out told : Nat} (h : KeR c k s S all out told) (hk : k ≤ 4398046511104) : IntKind.i64.wrap ((out : Int) + ((s.l.length : Nat) : Int) + (told : Int) + (s.lost : Int)) = (all : Int) ∧ wrap64 ((out : Int) + ((s.l.length : Nat) : Int) + (told : Int) + (s.lost : Int)) = (all : Int) := by
  obtain ⟨b1, b2, b3, b4, b5, b6⟩ := h.bnd hk
  have h6 := h.hall
  clear h; exact i64z (by omega) (by omega) (by omega)
set_option maxRecDepth 100000 in
set_option maxHeartbeats 8000000 in
theorem keeps_yes (w : World) (c : Cf) (hc : okC (c.of 1)) (G1 : Nat → Prop) (v1 : Value) (os : List Opn) (h1 : OpsV G1 w v1 os) (l1 : os.length ≤ 4398046511104) :
    Calls Try.prog 6 #[c.agg, v1] w fun e w' => e = .returned (.bool true) ∧ Below w.heap.size w w' := by
  obtain ⟨q1, cap1, rfl⟩ := h1.len
  obtain ⟨W1, hW1⟩ : ∃ W1, W1 = (w.alloc (.cells #[.int .i64 1, .int .i64 c.frm, .int .i64 c.to, .int .i64 c.size, .int .i64 c.dep] 23)) := ⟨_, rfl⟩
  have hB : Below w.heap.size w W1 := by rw [hW1]; exact (Below.refl _ w).alloc (Nat.le_refl _) _
  have hn : W1.heap[w.heap.size]? = some (.cells #[.int .i64 1, .int .i64 c.frm, .int .i64 c.to, .int .i64 c.size, .int .i64 c.dep] 23 (0, 0)) := by rw [hW1]; exact block_new _ _
  have hd : ((c.dep.toNat : Nat) : Int) = c.dep := by have h6 : 1 ≤ c.dep := hc.2.2.2.2.2.1; omega
  have K7 : Hid (Calls Try.prog 7 #[.agg #[.int .i64 1, .int .i64 c.frm, .int .i64 c.to, .int .i64 c.size, .int .i64 c.dep]] (w.alloc (.cells #[.int .i64 1, .int .i64 c.frm, .int .i64 c.to, .int .i64 c.size, .int .i64 c.dep] 23)) fun e w2 => ∃ p, e = .returned (.tuple #[.pointer (some ⟨p, 0, none⟩), .int .i64 0]) ∧ Hid (Kee W1 0 (w2.alloc (.cells #[] 9)) p (newS (c.of 1)) [] (.slice (some ⟨w2.heap.size, 0, none⟩) 0 0))) := Lib.hid (by
    rw [← hW1]
    exact (own_new (c.of 1) hc (Below.refl _ W1)).mono fun e w2 ⟨p, x, y⟩ => ⟨p, x, Lib.hid (Kee.new (w := w) y)⟩)
  have R0 : Hid (KeR c 0 (newS (c.of 1)) [] 0 0 0) := Lib.hid ⟨rfl, rfl, hd, Nat.le_refl _, rfl, rfl, Nat.le_refl _, Nat.le_refl _⟩
  have KF : Hid (∀ W, Calls Try.prog 10 #[] W fun e w' => e = .returned (.bool true) ∧ Below W.heap.size W w') := Lib.hid fixed_any
  have HB := Lib.hid hB
  have HN := Lib.hid hn
  obtain ⟨N, hN⟩ : ∃ N, N = os.length := ⟨_, rfl⟩
  rw [← hN] at h1 l1 ⊢
  have HO := Lib.hid h1
  clear hB hn hc h1 hN hW1 hd
  unfold Cf.agg
  go_enter Try.func6, Try.ntmps6
  go_wp2_with (first
    | (go_at_call 7; refine K7.out.mono ?_; rintro e w2 ⟨p, rfl, H2⟩))
  clear K7
  go_loopw [7, 8, 9, 10, 11, 12] (fun sv a b d f i wr => ∃ (k : Nat) (S : List ByteArray) (s : Po) (all out told : Nat), k ≤ N ∧ a = .int .i64 (all : Int) ∧ b = .int .i64 (out : Int) ∧ d = .int .i64 (told : Int) ∧ f = .int .i64 (s.lost : Int) ∧ i = .int .i64 (k : Int) ∧ Kee W1 k wr p s S sv ∧ KeR c k s S all out told) (fun _ _ _ _ _ i _ => N - (RowKit.intOf i).toNat)
  case atStart => exact ⟨0, _, _, 0, 0, 0, Nat.zero_le _, rfl, rfl, rfl, rfl, rfl, H2.out, R0.out⟩
  case round =>
    obtain ⟨k, S, s, all, out, told, hk, rfl, rfl, rfl, rfl, rfl, hT, hR⟩ := hrel
    obtain ⟨sq, scap, rfl, hsq⟩ := own_slice hT.row
    have hok := hT.ok
    have hlo := hT.lost
    have hrk := hR.hk
    have hra := hR.hall
    have hro := hR.hout
    have hrl := hR.hlen
    have hkl : k ≤ 4398046511104 := Nat.le_trans hk l1
    by_cases a : k < N
    · have aI : (k : Int) < (N : Int) := by omega
      have aI0 : (0 : Int) ≤ (k : Int) := by omega
      have hbW : Below w.heap.size w wr := HB.out.trans (hT.bel.mono HB.out.size)
      obtain ⟨g, oo, rfl, glt, c0, c1, c2, c3⟩ := HO.out.at hbW a
      generalize (os.getD k o00).on = on at *
      generalize (os.getD k o00).kd = kd at *
      generalize (os.getD k o00).tk = t at *
      generalize (os.getD k o00).s = m at *
      obtain ⟨wo, hwo⟩ : ∃ wo, wo = wr.alloc (.cells #[.int .i64 on, .int .i64 kd, .int .i64 t, .string m] 37) := ⟨_, rfl⟩
      have hbo : Below wr.heap.size wr wo := by rw [hwo]; exact (Below.refl _ wr).alloc (Nat.le_refl _) _
      have hrow : wo.heap[wr.heap.size]? = some (.cells #[.int .i64 on, .int .i64 kd, .int .i64 t, .string m] 37 (0, 0)) := by rw [hwo]; exact block_new _ _
      have hwsz : wo.heap.size = wr.heap.size + 1 := by rw [hwo, World.size_alloc]
      have cells : ∀ W, (∀ b, wr.heap.size ≤ b → b < wo.heap.size → W.heap[b]? = wo.heap[b]?) → Below W1.heap.size W1 W → W.cell? ⟨wr.heap.size, 1, none⟩ = some (.int .i64 kd) ∧ W.cell? ⟨wr.heap.size, 3, none⟩ = some (.string m) ∧ W.cell? ⟨w.heap.size, 3, none⟩ = some (.int .i64 c.size) ∧ W.cell? ⟨w.heap.size, 4, none⟩ = some (.int .i64 c.dep) := fun W hk hb => by
        have hp := (hk _ (Nat.le_refl _) (by omega)).trans hrow
        have hq := (hb.block _ (block_lt HN.out)).trans HN.out
        refine ⟨?_, ?_, ?_, ?_⟩ <;> first | (rw [cell_of_row _ _ _ _ _ _ hp]; rfl) | (rw [cell_of_row _ _ _ _ _ _ hq]; rfl)
      have hz := hR.size
      have hkind := hR.kind
      have hdep := hR.dep
      have kL0 := (hT.below hbo).len
      by_cases k1 : kd = 1
      · subst k1
        by_cases hl : s.l = []
        · have hE : recvE s 0 = 142 := by unfold recvE; rw [if_pos (by decide), if_pos hl]
          have hM : recvM s 0 = ByteArray.empty := by unfold recvM; rw [if_neg (by rw [hE]; decide)]
          have hNn : recvN s 0 = 0 := by unfold recvN; rw [if_neg (by rw [hE]; decide)]
          have hS : recvS s 0 = s := by unfold recvS; rw [if_neg (by rw [hE]; simp)]
          have hout : out = S.length := by have := hR.hl; rw [hl] at this; have := congrArg List.length this; simp at this; omega
          have KC : Hid (Calls Try.prog 14 #[.pointer (some ⟨p, 0, none⟩), .int .i64 0] wo fun e w3 => e = .returned (.tuple #[.string ByteArray.empty, .int .i64 0, .int .i64 142]) ∧ Hid (Kee W1 (k + 1) w3 p s S (.slice sq S.length scap))) := Lib.hid (by
            have := hT.tak (v := recvV s 0) (s' := recvS s 0) (k' := k + 1) hbo (recv_ok hok 0) (Nat.le_trans (recv_lost s 0) (by omega)) fun F hF => recv_any wo F p s hF 0 hok
            unfold recvV at this
            rw [hM, hNn, hE, hS] at this
            exact this.mono fun e w3 ⟨x, y, z⟩ => ⟨x, Lib.hid z⟩)
          have HR : Hid (KeR c (k + 1) s S all out told) := Lib.hid hR.stay
          rw [hwo] at KC
          have oI : (((out : Nat) : Int) == ((S.length : Nat) : Int)) = true := by rw [hout]; simp
          clear hE hM hNn hS hout hT hR hsq hok hlo hrk hra hro hrl hbW hwo hbo hrow hwsz cells hz hkind hdep kL0 hl
          go_wp2_with (first
            | (go_at_call 14; (with_reducible refine KC.out.mono ?_); rintro e1 w3 ⟨rfl, H3⟩))
          exact ⟨⟨k + 1, S, s, all, out, told, a, rfl, rfl, rfl, rfl, by simp, H3.out, HR.out⟩, by simp [RowKit.intOf]; omega⟩
        · obtain ⟨m0, l0, hl0⟩ : ∃ m l, s.l = m :: l := by
            cases hh : s.l with
            | nil => exact absurd hh hl
            | cons m l => exact ⟨m, l, rfl⟩
          have hE : recvE s 0 = 0 := by unfold recvE; rw [if_pos (by decide), if_neg hl]
          have hM : recvM s 0 = m0 := by unfold recvM; rw [if_pos hE, hl0]; rfl
          have hNn : recvN s 0 = (s.lost : Int) := by unfold recvN; rw [if_pos hE, if_neg (by rw [hkind]; decide)]
          have hS : recvS s 0 = { s with l := l0, lost := 0 } := by unfold recvS; rw [if_pos ⟨hE, by rw [hkind]; decide⟩, hl0]; rfl
          have hlt : out < S.length := by
            have := hR.hl; rw [hl0] at this; have := congrArg List.length this; simp at this; omega
          have hdr : S.drop out = m0 :: l0 := by rw [← hR.hl, hl0]
          have hget : S[out]? = some m0 := by
            have := congrArg (fun x => x[0]?) hdr
            simpa using this
          have hdr2 : l0 = S.drop (out + 1) := by
            have := congrArg List.tail hdr
            simpa using this.symm
          have hln : s.l.length = l0.length + 1 := by rw [hl0]; rfl
          obtain ⟨sg, rfl, hsc⟩ := hsq (by omega)
          have KC : Hid (Calls Try.prog 14 #[.pointer (some ⟨p, 0, none⟩), .int .i64 0] wo fun e w3 => e = .returned (.tuple #[.string m0, .int .i64 (s.lost : Int), .int .i64 0]) ∧ w3.cell? ⟨sg, out, none⟩ = some (.string m0) ∧ Hid (Kee W1 (k + 1) w3 p { s with l := l0, lost := 0 } S (.slice (some ⟨sg, 0, none⟩) S.length scap))) := Lib.hid (by
            have := hT.tak (v := recvV s 0) (s' := recvS s 0) (k' := k + 1) hbo (recv_ok hok 0) (Nat.le_trans (recv_lost s 0) (by omega)) fun F hF => recv_any wo F p s hF 0 hok
            unfold recvV at this
            rw [hM, hNn, hE, hS] at this
            refine this.mono fun e w3 ⟨x, y, z⟩ => ⟨x, ?_, Lib.hid z⟩
            obtain ⟨sq2, scap2, e2, hs2⟩ := own_slice z.row
            injection e2 with e2 e3 e4
            subst e2
            obtain ⟨g2, e5, hc2⟩ := hs2 (by omega)
            injection e5 with e5
            injection e5 with e5 _
            subst e5
            exact hc2 out _ (by rw [List.getElem?_map, hget]; rfl))
          have HR : Hid (KeR c (k + 1) { s with l := l0, lost := 0 } S all (out + 1) (told + s.lost)) := Lib.hid (hR.recv hl0)
          rw [hwo] at KC
          have oI : ¬ ((S.length : Int) ≤ (out : Int)) := by omega
          have oI2 : (out : Int) < (S.length : Int) := by omega
          have oI0 : (0 : Int) ≤ (out : Int) := by omega
          obtain ⟨q1, q2⟩ := hR.n1 hkl
          obtain ⟨q3, q4⟩ := hR.n2 hkl
          have q5 : IntKind.i64.wrap ((s.lost : Int) - (s.lost : Int)) = 0 := by rw [Int.sub_self]; exact IntWalk.i64_in 0 (by decide)
          have q6 : wrap64 ((s.lost : Int) - (s.lost : Int)) = 0 := by rw [Int.sub_self]; exact w64 (by decide)
          have q7 : (s.lost : Int) - (s.lost : Int) = 0 := Int.sub_self _
          clear hE hM hNn hS hT hR hsc hok hlo hrk hra hro hrl hbW hwo hbo hrow hwsz cells hz hkind hdep kL0 hl hlt hdr hget hdr2 hln hl0 hsq
          go_wp2_with (first
            | (go_at_call 14; (with_reducible refine KC.out.mono ?_); rintro e1 w3 ⟨rfl, x1, H3⟩))
          exact ⟨⟨k + 1, S, _, all, out + 1, told + s.lost, a, rfl, by simp, by simp, by simp, by simp, H3.out, HR.out⟩, by simp [RowKit.intOf]; omega⟩
      · have k1b : (kd == 1) = false := by simpa using k1
        have KL0 := Lib.hid kL0
        rw [hwo] at KL0
        by_cases hm : s.size < (m.size : Int)
        · have hE : sendE s m 0 = 141 := by unfold sendE; rw [if_pos (by decide), if_pos hm]
          have hS : sendS s m 0 = s := by unfold sendS; rw [if_neg (by rw [hE]; decide)]
          have KC : Hid (Calls Try.prog 12 #[.pointer (some ⟨p, 0, none⟩), .string m, .int .i64 0] wo fun e w3 => e = .returned (.int .i64 141) ∧ (w3.cell? ⟨wr.heap.size, 1, none⟩ = some (.int .i64 kd) ∧ w3.cell? ⟨wr.heap.size, 3, none⟩ = some (.string m) ∧ w3.cell? ⟨w.heap.size, 3, none⟩ = some (.int .i64 c.size) ∧ w3.cell? ⟨w.heap.size, 4, none⟩ = some (.int .i64 c.dep)) ∧ Hid (Kee W1 (k + 1) w3 p s S (.slice sq S.length scap))) := Lib.hid (by
            have := hT.tak (v := .int .i64 (sendE s m 0)) (s' := sendS s m 0) (k' := k + 1) hbo (send_ok hok m 0) (Nat.le_trans (send_lost s m 0) (by omega)) fun F hF => send_any wo F p s hF m 0 hok (by omega)
            rw [hE, hS] at this
            exact this.mono fun e w3 ⟨x, y, z⟩ => ⟨x, cells w3 y z.bel, Lib.hid z⟩)
          have HR : Hid (KeR c (k + 1) s S all out told) := Lib.hid hR.stay
          have hm2 : ¬ (m.size : Int) ≤ c.size := by omega
          rw [hwo] at KC
          have nn : (((s.l.length : Nat) : Int) != ((s.l.length : Nat) : Int)) = false := by simp
          clear hE hS hT hR hsq hok hlo hrk hra hro hrl hbW hwo hbo hrow hwsz cells hz hkind hdep kL0 hm k1
          go_wp2_with (first
            | (go_at_call 20; (with_reducible refine KL0.out.mono ?_); rintro e1 _ ⟨rfl, rfl⟩)
            | (go_at_call 12; (with_reducible refine KC.out.mono ?_); rintro e1 w3 ⟨rfl, ⟨y1, y3, y4, y5⟩, H3⟩)
            | (go_at_call 20; (with_reducible refine H3.out.len.mono ?_); rintro e1 _ ⟨rfl, rfl⟩))
          exact ⟨⟨k + 1, S, s, all, out, told, a, rfl, rfl, rfl, rfl, by simp, H3.out, HR.out⟩, by simp [RowKit.intOf]; omega⟩
        · have hE : sendE s m 0 = 0 := by unfold sendE; rw [if_pos (by decide), if_neg hm]
          have hS : sendS s m 0 = (if s.l.length = s.dep then { s with lost := s.lost + 1 } else { s with l := s.l ++ [m] }) := by unfold sendS; rw [if_pos hE, if_neg (by rw [hkind]; decide)]
          have KC : Hid (Calls Try.prog 12 #[.pointer (some ⟨p, 0, none⟩), .string m, .int .i64 0] wo fun e w3 => e = .returned (.int .i64 0) ∧ (w3.cell? ⟨wr.heap.size, 1, none⟩ = some (.int .i64 kd) ∧ w3.cell? ⟨wr.heap.size, 3, none⟩ = some (.string m) ∧ w3.cell? ⟨w.heap.size, 3, none⟩ = some (.int .i64 c.size) ∧ w3.cell? ⟨w.heap.size, 4, none⟩ = some (.int .i64 c.dep)) ∧ Hid (Kee W1 (k + 1) w3 p (sendS s m 0) S (.slice sq S.length scap))) := Lib.hid (by
            have := hT.tak (v := .int .i64 (sendE s m 0)) (s' := sendS s m 0) (k' := k + 1) hbo (send_ok hok m 0) (Nat.le_trans (send_lost s m 0) (by omega)) fun F hF => send_any wo F p s hF m 0 hok (by omega)
            rw [hE] at this
            exact this.mono fun e w3 ⟨x, y, z⟩ => ⟨x, cells w3 y z.bel, Lib.hid z⟩)
          obtain ⟨q1, q2⟩ := hR.n3 hkl
          rw [hwo] at KC
          by_cases full : s.l.length = s.dep
          · rw [if_pos full] at hS
            rw [hS] at KC
            have HR : Hid (KeR c (k + 1) { s with lost := s.lost + 1 } S (all + 1) out told) := Lib.hid hR.full
            have fI : (((s.l.length : Nat) : Int) == c.dep) = true := by rw [full, hdep]; simp
            obtain ⟨q3, q4⟩ := hR.n4 hkl
            obtain ⟨q5, q6⟩ := hR.n5 hkl
            have KL2 : Hid (∀ W, Kee W1 (k + 1) W p { s with lost := s.lost + 1 } S (.slice sq S.length scap) → Calls Try.prog 20 #[.pointer (some ⟨p, 0, none⟩)] W fun e w' => e = .returned (.int .i64 ((s.l.length : Nat) : Int)) ∧ W = w') := Lib.hid fun W h => h.len
            clear hE hS hT hR hsq hok hlo hrk hra hro hrl hbW hwo hbo hrow hwsz cells hz hkind hdep kL0 hm k1 full
            go_wp2_with (first
              | (go_at_call 20; (with_reducible refine KL0.out.mono ?_); rintro e1 _ ⟨rfl, rfl⟩)
              | (go_at_call 12; (with_reducible refine KC.out.mono ?_); rintro e1 w3 ⟨rfl, ⟨y1, y3, y4, y5⟩, H3⟩)
              | (go_at_call 20; (with_reducible refine (KL2.out _ H3.out).mono ?_); rintro e1 _ ⟨rfl, rfl⟩))
            exact ⟨⟨k + 1, S, _, all + 1, out, told, a, by simp, rfl, rfl, by simp, by simp, H3.out, HR.out⟩, by simp [RowKit.intOf]; omega⟩
          · rw [if_neg full] at hS
            rw [hS] at KC
            have HR : Hid (KeR c (k + 1) { s with l := s.l ++ [m] } (S ++ [m]) (all + 1) out told) := Lib.hid (hR.app m)
            have fI : (((s.l.length : Nat) : Int) == c.dep) = false := by simp; omega
            obtain ⟨q5, q6⟩ := hR.n6 hkl
            have KL2 : Hid (∀ W q' n' cap', Kee W1 (k + 1) W p { s with l := s.l ++ [m] } (S ++ [m]) (.slice q' n' cap') → Calls Try.prog 20 #[.pointer (some ⟨p, 0, none⟩)] W fun e w' => e = .returned (.int .i64 ((s.l.length + 1 : Nat) : Int)) ∧ W = w') := Lib.hid fun W q' n' cap' h => by
              have := h.len
              rw [show (s.l ++ [m]).length = s.l.length + 1 by simp] at this
              exact this
            have KA : Hid (∀ W, Kee W1 (k + 1) W p { s with l := s.l ++ [m] } S (.slice sq S.length scap) → ∃ q' cap' W', (Builtin.append_ #[45, 45] 45 #[.slice sq S.length scap, .slice (some ⟨W.heap.size, 0, none⟩) 1 1]).run Try.prog (W.alloc (.cells #[.string m] 9)) = .ok (.slice q' (S.length + 1) cap') W' ∧ Hid (Kee W1 (k + 1) W' p { s with l := s.l ++ [m] } (S ++ [m]) (.slice q' (S.length + 1) cap'))) := Lib.hid fun W h => by
              obtain ⟨q', n', cap', W', x, rfl, z⟩ := h.app (by omega) m
              exact ⟨q', cap', W', x, Lib.hid z⟩
            clear hE hS hT hR hsq hok hlo hrk hra hro hrl hbW hwo hbo hrow hwsz cells hz hkind hdep kL0 hm k1 full
            go_wp2_with (first
              | (go_at_call 20; (with_reducible refine KL0.out.mono ?_); rintro e1 _ ⟨rfl, rfl⟩)
              | (go_at_call 12; (with_reducible refine KC.out.mono ?_); rintro e1 w3 ⟨rfl, ⟨y1, y3, y4, y5⟩, H3⟩)
              | (at_builtin; obtain ⟨q', cap', W', hr, H4⟩ := KA.out _ H3.out; refine wpList_app rfl (.tmp 115) (.tmp 118) 45 rfl _ _ _ _ rfl rfl hr ?_)
              | (go_at_call 20; (with_reducible refine (KL2.out _ _ _ _ H4.out).mono ?_); rintro e1 _ ⟨rfl, rfl⟩))
            exact ⟨⟨k + 1, S ++ [m], { s with l := s.l ++ [m] }, all + 1, out, told, a, by simp, rfl, rfl, rfl, by simp, H4.out, HR.out⟩, by simp [RowKit.intOf]; omega⟩
    · obtain rfl : k = N := by omega
      have HE := Lib.hid (HB.out.trans (hT.bel.mono HB.out.size))
      have KL := Lib.hid hT.len
      obtain ⟨q1, q2⟩ := hR.n7 hkl
      obtain ⟨q3, q4⟩ := hR.n8 hkl
      obtain ⟨q5, q6⟩ := hR.n9 hkl
      clear hT hR hsq hok hlo hrk hra hro hrl
      go_wp2_with (first
        | (go_at_call 20; (with_reducible refine KL.out.mono ?_); rintro e1 _ ⟨rfl, rfl⟩)
        | (go_at_call 10; refine (KF.out _).mono ?_; rintro e1 w4 ⟨rfl, hb⟩; have H4 := Lib.hid (HE.out.trans (hb.mono HE.out.size)); clear hb))
      go_ret
      exact ⟨rfl, H4.out⟩
theorem keeps_any (w : World) (c : Cf) (G1 : Nat → Prop) (v1 : Value) (os : List Opn) (h1 : OpsV G1 w v1 os) (l1 : os.length ≤ 4398046511104) :
    Calls Try.prog 6 #[c.agg, v1] w fun e w' => e = .returned (.bool true) ∧ Below w.heap.size w w' := by
  by_cases hc : okC (c.of 1)
  · exact keeps_yes w c hc G1 v1 os h1 l1
  · exact keeps_no w c v1 hc
end Go.Proofs.Ytolcdfkkdhkpfaa
