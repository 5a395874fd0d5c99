/- All cells are read, while the power is there. Conditions: ints are within 64 bits. -/
import Derived.Test.YtjippoejaieneaaGreatCem
import Derived.Test.YtjippoejaieneaaGreatJop
namespace Go.Proofs.YtjippoejaieneaaGreat
open Go.RowKit Go.Maps
set_option maxRecDepth 20000
set_option linter.unusedVariables false

def strV (d : Bts) : Value := .string (ofL d)
theorem Tryz.info9 : (Tryz.prog.info? 9).map (fun i => (i.zero, i.size, i.bytes)) = some (some (.string ByteArray.empty), 1, 16) := by kernel_rfl
/-- a text is appended to a row of texts -/
theorem sapp {w : World} {base : Nat} {v : Value} {l : List Bts} (d : Bts) (h : w.ownsRow base 9 1 v l.length (l.map strV)) (hb : base ≤ w.heap.size) (hl : l.length ≤ 8192) :
    ∃ v' w', (Builtin.append_ #[55, 55] 55 #[v, .slice (some ⟨w.heap.size, 0, none⟩) 1 1]).run Tryz.prog (w.alloc (.cells #[strV d] 9)) = .ok v' w' ∧ w'.ownsRow base 9 1 v' (l ++ [d]).length ((l ++ [d]).map strV) ∧ (w.alloc (.cells #[strV d] 9)).grownBy w' v.ownBlock ∧ (v'.ownBlock = v.ownBlock ∨ ∃ b, v'.ownBlock = some b ∧ w.heap.size ≤ b) := by
  obtain ⟨i0, hi, hz0, hz1, hz2⟩ := info_parts Tryz.info9
  have hk := block_new w (.cells #[strV d] 9)
  obtain ⟨v', w', hr, hown, hg, _, hat⟩ := run_append_own_at (P := Tryz.prog) (w := w.alloc (.cells #[strV d] 9)) base 55 55 9 i0 _ 1 16 Tryz.underlying55 hi hz0 hz1 hz2 rfl (by decide) v _ _ (h.alloc _) ⟨w.heap.size, 0, none⟩ 1 1 [strV d] rfl (fun j u hj => by
    rw [addr_at, Nat.zero_add, cell_of_row _ _ j _ _ _ hk]
    simpa using hj) (by intro u hu; simp at hu; subst hu; rfl) (by unfold maxLen; omega) (by omega) (by simp; omega)
  refine ⟨v', w', hr, by simpa using hown, hg, ?_⟩
  rcases hat with e | e
  · exact .inl e
  · exact .inr ⟨_, e, by simp⟩
def celsL (S : St) (V : Dv) (J : Jn) : List Bts := (List.range (V.cnt - J.area)).map (cel S V J)
theorem cel_same {S : St} {V V' : Dv} {J : Jn} (h1 : V'.first = V.first) (h2 : V'.cnt = V.cnt) (c : Nat) : cel S V' J c = cel S V J c := by
  unfold cel
  rw [(rd_same h1 h2 _).2.1]
theorem CelOk.same {S : St} {V V' : Dv} {J : Jn} (h : CelOk S V J) (h1 : V'.first = V.first) (h2 : V'.cnt = V.cnt) : CelOk S V' J := fun c hc hz => by
  rw [(rd_same h1 h2 _).1]; exact h c (by rw [← h2]; exact hc) hz
theorem celV_cnt (S : St) (V : Dv) (J : Jn) (c : Int) : (celV S V J c).first = V.first ∧ (celV S V J c).cnt = V.cnt ∧ (celV S V J c).mis ≤ V.mis + 1 := by
  unfold celV
  split
  · exact ⟨rfl, rfl, by omega⟩
  · split
    · exact ⟨rfl, rfl, by omega⟩
    · exact ⟨(rdV_cnt S V _).1, (rdV_cnt S V _).2.1, rdV_mis S V _⟩
theorem cel_at {S : St} {V : Dv} {J : Jn} (h : CelOk S V J) {c : Nat} (hc : c < V.cnt - J.area) : celE S V J (c : Int) = 0 ∧ celD S V J (c : Int) = cel S V J c := by
  have hz : isC J V (c : Int) = true := by unfold isC; simp only [Bool.and_eq_true, decide_eq_true_eq]; omega
  unfold celE celD cel
  rw [hz, Int.toNat_natCast]
  simp only [Bool.true_eq_false, if_false]
  cases hl : J.last c with
  | some d => exact ⟨rfl, rfl⟩
  | none => exact ⟨h c hc hl, rfl⟩
/-- a row beside a journal -/
structure Rw (W : World) (base : Nat) (N : Nat → Prop) (v : Value) (l : List Bts) : Prop where
  own : W.ownsRow base 9 1 v l.length (l.map strV)
  nb : ∀ b, v.ownBlock = some b → ¬ N b
theorem Rw.toJ {W W' : World} {base j x p mb : Nat} {F : Nat → Prop} {S : St} {V : Dv} {J : Jn} {v : Value} {l : List Bts} (h : Rw W base (JF F j mb) v l) (t : ToJ F W W' j x p mb S V J) : ∃ F' mb', IsJ W' F' j x p mb' S V J ∧ Gr (JF F j mb) (JF F' j mb') W W' ∧ Ch (JF F j mb) W W' ∧ Rw W' base (JF F' j mb') v l := by
  obtain ⟨F', mb', i, g, c⟩ := t
  refine ⟨F', mb', i, g, c, own_keep h.own (fun b hb => c.block b (own_lt h.own hb) (h.nb b hb)), fun b hb z => ?_⟩
  rcases g b z with y | y
  · exact h.nb b hb y
  · have := own_lt h.own hb; omega
theorem Rw.below {W W' : World} {base : Nat} {N : Nat → Prop} {v : Value} {l : List Bts} (h : Rw W base N v l) (hb : Below W.heap.size W W') : Rw W' base N v l := ⟨own_keep h.own (fun b hk => hb.block b (own_lt h.own hk)), h.nb⟩
theorem IsJ.lt {w : World} {F : Nat → Prop} {j x p mb : Nat} {S : St} {V : Dv} {J : Jn} (i : IsJ w F j x p mb S V J) : ∀ k, JF F j mb k → k < w.heap.size := fun k z => by
  rcases z with z | z | z
  · exact i.jx.bd k z
  · rw [z]; exact i.jx.lt
  · rw [z]; exact i.map.lt
/-- appending to a row beside a journal keeps the journal -/
theorem IsJ.grown {w w' : World} {F : Nat → Prop} {j x p mb : Nat} {S : St} {V : Dv} {J : Jn} {r : Option Nat} (i : IsJ w F j x p mb S V J) (g : w.grownBy w' r) (hr : ∀ b, r = some b → ¬ JF F j mb b) : IsJ w' F j x p mb S V J := by
  have hk : ∀ k, JF F j mb k → w'.heap[k]? = w.heap[k]? := fun k z => g.block k (i.lt k z) (fun e => hr k e.symm z)
  have hx := i.jx
  exact ⟨⟨(hk j (.inr (.inl rfl))).trans hx.blk, hx.ext.of_heap g.size (fun k _ hF => hk k (.inl hF)), hx.nj, hx.sok, hx.good, fun k z => Nat.lt_of_lt_of_le (hx.bd k z) g.size⟩, i.map.of_heap (hk mb (.inr (.inr rfl))), i.mF, i.jm, i.ok, i.live⟩
set_option maxHeartbeats 8000000 in
theorem readL_any (F : Nat → Prop) (j x p mb : Nat) (S : St) (V : Dv) (J : Jn) (w : World) (h : IsJ w F j x p mb S V J) (hd : S.dead = false) (hco : CelOk S V J) (hm : V.mis < 4611686018427370000) :
    Calls Tryz.prog 22 #[.pointer (some ⟨j, 0, none⟩)] w fun e w' => ∃ v F' mb' V', e = .returned (.tuple #[v, .bool true]) ∧ V'.first = V.first ∧ V'.cnt = V.cnt ∧ V'.mis ≤ V.mis + 4096 ∧ IsJ w' F' j x p mb' S V' J ∧ Gr (JF F j mb) (JF F' j mb') w w' ∧ Ch (JF F j mb) w w' ∧ Rw w' w.heap.size (JF F' j mb') v (celsL S V J) := by
  have hc4 := h.c4
  have ha1 := h.ok.a1
  obtain ⟨N, hN⟩ : ∃ N, N = V.cnt - J.area := ⟨_, rfl⟩
  have hN4 : N ≤ 4096 := by omega
  have H := Lib.hid h
  have HNN := Lib.hid hN
  have HL : Hid (celsL S V J = (List.range N).map (cel S V J)) := by unfold celsL Hid; rw [hN]
  have hnl := h.lt
  have HCO := Lib.hid (And.intro hd (And.intro hco (And.intro hm (And.intro hc4 ha1))))
  have H0 : Hid (IsJ (w.alloc (.cells #[] 9)) F j x p mb S V J ∧ Gr (JF F j mb) (JF F j mb) w (w.alloc (.cells #[] 9)) ∧ Ch (JF F j mb) w (w.alloc (.cells #[] 9)) ∧ Rw (w.alloc (.cells #[] 9)) w.heap.size (JF F j mb) (.slice (some ⟨w.heap.size, 0, none⟩) 0 0) []) := by
    have hb : Below w.heap.size w (w.alloc (.cells #[] 9)) := (Below.refl _ w).alloc (Nat.le_refl _) _
    refine ⟨h.below hb, Gr.refl _ _ _, Ch.of_below hb, ⟨by simp, .inr ⟨w.heap.size, 0, #[], rfl, Nat.le_refl _, block_new w _, Nat.le_refl _, Nat.zero_le _, by simp, by simp⟩⟩, fun b hb' z => ?_⟩
    have e : b = w.heap.size := by injection hb' with hb'; exact hb'.symm
    have := hnl b z; omega
  clear h hd hco hm hN hc4 ha1
  go_enter Tryz.func22, Tryz.ntmps22
  go_wp2_with fail
  go_loopw [4, 5] (fun s4 i W => ∃ (v : Value) (k : Nat) (F1 : Nat → Prop) (m1 : Nat) (V1 : Dv), s4 = v ∧ k ≤ N ∧ i = .int .i64 (k : Int) ∧ V1.first = V.first ∧ V1.cnt = V.cnt ∧ V1.mis ≤ V.mis + k ∧ IsJ W F1 j x p m1 S V1 J ∧ Gr (JF F j mb) (JF F1 j m1) w W ∧ Ch (JF F j mb) w W ∧ Rw W w.heap.size (JF F1 j m1) v ((List.range k).map (cel S V J))) (fun _ i _ => N - (RowKit.intOf i).toNat)
  case atStart => exact ⟨_, 0, F, mb, V, rfl, Nat.zero_le _, rfl, rfl, rfl, Nat.le_refl _, H0.out.1, H0.out.2.1, H0.out.2.2.1, H0.out.2.2.2⟩
  case round =>
    obtain ⟨x4, k, F1, m1, V1, hs4, hk, rfl, e1, e2, e3, i1, g1, c1, r1⟩ := hrel
    have hs4' := hs4.symm
    subst hs4'
    clear hs4
    obtain ⟨hdd, hco, hmm, hc4, ha1⟩ := HCO.out
    have hN' : V1.cnt - J.area = N := by rw [e2, HNN.out]
    have KC := cells_any F1 j x p _ S V1 J wr i1.jx (by rw [e2]; exact ha1)
    rw [hN'] at KC
    have KCC := Lib.hid KC
    by_cases hlt : k < N
    · have hki : (k : Int) < (N : Int) := by omega
      obtain ⟨x1, x2⟩ := cel_at (hco.same e1 e2) (c := k) (by rw [hN']; exact hlt)
      rw [cel_same e1 e2] at x2
      obtain ⟨y1, y2, y3⟩ := celV_cnt S V1 J (k : Int)
      have KR : Hid (∀ W2, Below wr.heap.size wr W2 → Calls Tryz.prog 17 #[.pointer (some ⟨j, 0, none⟩), .int .i64 (k : Int)] W2 fun e w' => e = .returned (.tuple #[strV (cel S V J k), .int .i64 0]) ∧
          ∃ F2 m2 V2 v3 w3, V2.first = V.first ∧ V2.cnt = V.cnt ∧ V2.mis ≤ V.mis + (k + 1) ∧ (Builtin.append_ #[55, 55] 55 #[x4, .slice (some ⟨w'.heap.size, 0, none⟩) 1 1]).run Tryz.prog (w'.alloc (.cells #[strV (cel S V J k)] 9)) = .ok v3 w3 ∧ IsJ w3 F2 j x p m2 S V2 J ∧ Gr (JF F j mb) (JF F2 j m2) w w3 ∧ Ch (JF F j mb) w w3 ∧ Rw w3 w.heap.size (JF F2 j m2) v3 ((List.range (k + 1)).map (cel S V J))) := fun W2 hb2 => by
        refine (jread_any F1 j x p m1 S V1 J (k : Int) W2 (i1.below hb2) hdd (by omega)).mono fun e w' q => ?_
        rw [x1, x2] at q
        obtain ⟨q1, t⟩ := q
        obtain ⟨F2, m2, i2, g2, c2, r2⟩ := (r1.below hb2).toJ t
        have hlen : ((List.range k).map (cel S V J)).length = k := by simp
        have cw' : Ch (JF F j mb) w w' := (c1.then_below hb2).trans (fun b hb' => (g1 b hb').imp id (fun z => ⟨z.1, Nat.lt_of_lt_of_le z.2 hb2.size⟩)) c2
        have gw' : Gr (JF F j mb) (JF F2 j m2) w w' := fun b hb' => by
          rcases g2 b hb' with z | z
          · exact (g1 b z).imp id (fun y => ⟨y.1, Nat.lt_of_lt_of_le y.2 (Nat.le_trans hb2.size c2.size)⟩)
          · exact .inr ⟨Nat.le_trans c1.size (Nat.le_trans hb2.size z.1), z.2⟩
        obtain ⟨v3, w3, hr, hown, hg, hat⟩ := sapp (cel S V J k) r2.own (by exact cw'.size) (by rw [hlen]; omega)
        have hgr : w'.grownBy w3 x4.ownBlock := ⟨hg.os, hg.tape, hg.output, by have := hg.size; simp at this; omega, fun b hb' hn => (hg.block b (by simp; omega) hn).trans (Below.heap_alloc _ _ _ hb')⟩
        have i3 := i2.grown hgr r2.nb
        have hbase : ∀ b, x4.ownBlock = some b → w.heap.size ≤ b := fun b hb' => (r2.own.lt b hb').1
        refine ⟨q1, F2, m2, _, v3, w3, y1.trans e1, y2.trans e2, by omega, hr, i3, fun b hb' => (gw' b hb').imp id (fun z => ⟨z.1, Nat.lt_of_lt_of_le z.2 hgr.size⟩), ?_, ?_⟩
        · exact ⟨hgr.os.trans cw'.os, hgr.tape.trans cw'.tape, hgr.output.trans cw'.output, Nat.le_trans cw'.size hgr.size, fun b hb' hn => (hgr.block b (Nat.lt_of_lt_of_le hb' cw'.size) (fun e => by have := hbase b e.symm; omega)).trans (cw'.block b hb' hn)⟩
        · have el : (List.range k).map (cel S V J) ++ [cel S V J k] = (List.range (k + 1)).map (cel S V J) := by rw [List.range_succ, List.map_append]; rfl
          rw [el] at hown
          refine ⟨hown, fun b hb' z => ?_⟩
          rcases hat with e | ⟨b2, e, hb2'⟩
          · exact r2.nb b (by rw [← e]; exact hb') z
          · have := i2.lt b z
            rw [e] at hb'
            injection hb' with hb'
            omega
      unfold strV at KR
      generalize cel S V J k = D at *
      clear i1 g1 c1 KC x1 x2 y1 y2 y3 hN' e1 e2 e3
      go_wp2_with (first
        | (go_at_call 29; (with_reducible refine KCC.out.mono ?_); rintro e w2 ⟨rfl, hb2⟩)
        | (go_at_call 17; (with_reducible refine (KR.out _ hb2).mono ?_); rintro e w3 ⟨rfl, F2, m2, V2, v3, w4, a1, a2, a3, hr, a4, a5, a6, a7⟩; have H4 := Lib.hid (And.intro a1 (And.intro a2 (And.intro a3 (And.intro a4 (And.intro a5 (And.intro a6 a7)))))); clear a1 a2 a3 a4 a5 a6 a7)
        | (at_builtin; refine wpList_append_run rfl (.tmp 23) (.tmp 25) 55 rfl _ _ _ _ rfl rfl hr ?_))
      go_roundw
      case rel => exact ⟨_, k + 1, F2, m2, V2, rfl, by omega, by go_num, H4.out⟩
      case measure => simp only [RowKit.intOf]; omega
    · have hkN : k = N := by omega
      have hki : ¬ (k : Int) < (N : Int) := by omega
      have HE : Hid (∀ w9, Below wr.heap.size wr w9 → ∃ F' mb' V', V'.first = V.first ∧ V'.cnt = V.cnt ∧ V'.mis ≤ V.mis + 4096 ∧ IsJ w9 F' j x p mb' S V' J ∧ Gr (JF F j mb) (JF F' j mb') w w9 ∧ Ch (JF F j mb) w w9 ∧ Rw w9 w.heap.size (JF F' j mb') x4 (celsL S V J)) := fun w9 hb => by
        refine ⟨F1, m1, V1, e1, e2, by omega, i1.below hb, fun b hb' => (g1 b hb').imp id (fun z => ⟨z.1, Nat.lt_of_lt_of_le z.2 hb.size⟩), c1.then_below hb, ?_⟩
        rw [HL.out, ← hkN]; exact r1.below hb
      clear i1 g1 c1 r1 KC e1 e2 e3 hkN hN'
      go_wp2_with (go_at_call 29; (with_reducible refine KCC.out.mono ?_); rintro e w2 ⟨rfl, hb2⟩)
      go_ret2
      obtain ⟨F', mb', V', z⟩ := HE.out _ hb2
      exact ⟨_, F', mb', V', rfl, z⟩
end Go.Proofs.YtjippoejaieneaaGreat
