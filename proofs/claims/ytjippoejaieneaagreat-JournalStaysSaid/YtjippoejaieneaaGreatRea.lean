/- A block read: what the call returns, and the extent then. Conditions: the cache tells what the disk has; few misses. -/
import Derived.Test.YtjippoejaieneaaGreatExt
namespace Go.Proofs.YtjippoejaieneaaGreat
open Go.RowKit Go.Maps Go.Lib
set_option maxRecDepth 20000
set_option linter.unusedVariables false

/-- the cache tells what the disk has -/
def Coh (S : St) (V : Dv) : Prop := ∀ b ∈ V.l, b.at' < V.cnt ∧ parE (sct S V (b.at' : Int)) = 0 ∧ b.data = parD (sct S V (b.at' : Int)) ∧ b.st = parN (sct S V (b.at' : Int))
def bkOf (S : St) (V : Dv) (i : Int) : Bk := ⟨i.toNat, parD (sct S V i), parN (sct S V i)⟩
def rdE (S : St) (V : Dv) (i : Int) : Int := if refE S V i ≠ 0 then refE S V i else parE (sct S V i)
def rdD (S : St) (V : Dv) (i : Int) : Bts := if refE S V i ≠ 0 then [] else parD (sct S V i)
def rdN (S : St) (V : Dv) (i : Int) : Int := if refE S V i ≠ 0 then 0 else parN (sct S V i)
def misOf (V : Dv) (i : Int) : Nat := if posL i V.l < V.l.length then V.mis else V.mis + 1
def rdV (S : St) (V : Dv) (i : Int) : Dv :=
  if refE S V i ≠ 0 then V else if parE (sct S V i) = 0 then { V with mis := misOf V i, l := keepL V.most V.l (bkOf S V i) } else { V with mis := misOf V i }
theorem refE_ok {S : St} {V : Dv} {i : Int} (h : refE S V i = 0) : S.dead = false ∧ 0 ≤ i ∧ i < (V.cnt : Int) := by
  unfold refE at h
  split at h
  · cases h
  · split at h
    · cases h
    · rename_i a b; exact ⟨by simpa using a, by omega, by omega⟩
theorem coh_found {S : St} {V : Dv} (hc : Coh S V) {i : Int} (h0 : 0 ≤ i) (q : posL i V.l < V.l.length) : parE (sct S V i) = 0 ∧ fndV i V.l = (bkOf S V i).agg := by
  obtain ⟨b, hb, hat⟩ := posL_some q
  have hm := hc b (List.mem_of_getElem? hb)
  rw [hat] at hm
  refine ⟨hm.2.1, ?_⟩
  unfold fndV
  rw [hb]
  obtain ⟨a, d, t⟩ := b
  obtain ⟨_, _, h1, h2⟩ := hm
  have : a = i.toNat := by have : (a : Int) = i := hat; omega
  show Bk.agg ⟨a, d, t⟩ = _
  rw [show d = parD (sct S V i) from h1, show t = parN (sct S V i) from h2, this]
  rfl
theorem dv5 (p : Nat) (v : Value) (V : Dv) (m : Nat) : (dvCells p v V).setIfInBounds 5 (.int .i64 (m : Int)) = dvCells p v { V with mis := m } := rfl
theorem IsV.mis {w : World} {F : Nat → Prop} {x p : Nat} {V : Dv} (h : IsV w F x p V) (m : Nat) : IsV (w.setCell ⟨x, 5, none⟩ (.int .i64 (m : Int))) F x p { V with mis := m } := by
  obtain ⟨h0, v, hx, ho, hF, few⟩ := h
  exact ⟨h0, v, by rw [block_setCell hx, dv5], own_keep ho (fun j hj => block_setCell_other (x := ⟨x, 5, none⟩) (own_ne ho hx hj)), hF, few⟩
theorem EE.drewN {F : Nat → Prop} {w w' : World} {x p : Nat} {S : St} {V : Dv} (h : EE F w w' x p S V) (m : Nat) : EE F w (w'.drewN m) x p S V := by
  obtain ⟨F', i, g, c⟩ := h
  exact ⟨F', i.of_heap (Nat.le_refl _) (fun _ _ _ => rfl), g, ⟨c.os, c.tape, c.output, c.size, c.block⟩⟩
theorem On.set {g o : Nat} (w : World) (v : Value) : On g w (w.setCell ⟨g, o, none⟩ v) := ⟨rfl, rfl, rfl, by simp [World.setCell], fun k hk => block_setCell_other (x := ⟨g, o, none⟩) hk⟩
theorem On.set3 (g : Nat) (w : World) (u0 u1 u2 : Value) : On g w (((w.setCell ⟨g, 0, none⟩ u0).setCell ⟨g, 1, none⟩ u1).setCell ⟨g, 2, none⟩ u2) := ((On.set w u0).trans (On.set _ u1)).trans (On.set _ u2)
set_option maxHeartbeats 2000000 in
theorem dread_any (F : Nat → Prop) (x p : Nat) (S : St) (V : Dv) (i : Int) (w : World) (h : IsE w F x p S V) (hok : V.ok) (hf : Fit S V) (hco : S.dead = false → Coh S V) (hm : V.mis < 4611686018427387904) :
    Calls Tryz.prog 80 #[.pointer (some ⟨x, 0, none⟩), .int .i64 i] w fun e w' => e = .returned (.tuple #[.string (ofL (rdD S V i)), .int .i64 (rdN S V i), .int .i64 (rdE S V i)]) ∧ EE F w w' x p S (rdV S V i) := by
  have hE := h
  obtain ⟨Fd, Fv, hd, hv, h1, h2⟩ := h
  have kr := refusal_any Fd Fv x p S V i w hd hv
  have few : V.l.length ≤ 16 := Nat.le_trans hok.len hok.most
  have HEE := Lib.hid (EE.of_below hE (Below.refl _ w))
  by_cases hz : refE S V i = 0
  · obtain ⟨hdd, h0, hi⟩ := refE_ok hz
    have hco := hco hdd
    have e1 : rdE S V i = parE (sct S V i) := by unfold rdE; rw [if_neg (by simpa using hz)]
    have e2 : rdD S V i = parD (sct S V i) := by unfold rdD; rw [if_neg (by simpa using hz)]
    have e3 : rdN S V i = parN (sct S V i) := by unfold rdN; rw [if_neg (by simpa using hz)]
    have kc := cached_any Fv x p V i w hv
    rw [hz] at kr
    by_cases q : posL i V.l < V.l.length
    · obtain ⟨q1, q2⟩ := coh_found hco h0 q
      have q3 : fndB i V.l = true := decide_eq_true q
      rw [q2, q3] at kc
      have e4 : rdV S V i = { V with l := keepL V.most V.l (bkOf S V i) } := by unfold rdV misOf; rw [if_neg (by simpa using hz), if_pos q1, if_pos q]
      rw [q1] at e1
      rw [e1, e2, e3, e4]
      obtain ⟨b, hb⟩ : ∃ b, b = bkOf S V i := ⟨_, rfl⟩
      rw [← hb] at kc ⊢
      have hD : b.data = parD (sct S V i) := by rw [hb]; rfl
      have hN : b.st = parN (sct S V i) := by rw [hb]; rfl
      rw [← hD, ← hN]
      have KK : Hid (∀ w2, Below w.heap.size w w2 → Calls Tryz.prog 113 #[.pointer (some ⟨x, 0, none⟩), b.agg] (w2.alloc (.cells #[.int .i64 (b.at' : Int), .string (ofL b.data), .int .i64 b.st] 149)) fun e w' => e = .returned (.tuple #[]) ∧ w'.heap[w2.heap.size]? = some (bkObj b) ∧ EE F w w' x p S { V with l := keepL V.most V.l b }) := fun w2 hb2 => by
        have hb3 : Below w.heap.size w (w2.alloc (bkObj b)) := hb2.trans ((Below.refl w.heap.size w2).alloc hb2.size (bkObj b))
        have hkeep := keep_any Fv x p V b (w2.alloc (bkObj b)) (hv.below hb3) (fun k hk => Nat.lt_of_lt_of_le (h2 k hk).2 hb3.size) few
        refine hkeep.mono ?_
        rintro e w' ⟨rfl, ht⟩
        refine ⟨rfl, ?_, ?_⟩
        · obtain ⟨F', _, _, c⟩ := ht
          rw [c.block _ (by simp) (fun z => by have := (h2 _ z).2; have := hb2.size; omega)]
          exact block_new w2 _
        · have := EE.dev (F := F) (hd.below hb3) (fun k hk => ⟨(h1 k hk).1, (h1 k hk).2.1, Nat.lt_of_lt_of_le (h1 k hk).2.2 hb3.size⟩) (fun k hk => ⟨(h2 k hk).1, Nat.lt_of_lt_of_le (h2 k hk).2 hb3.size⟩) ht
          exact EE.trans (Gr.refl _ _ _) (Ch.of_below hb3) this
      clear hE hd hv h1 h2 hz hdd h0 hi hco e1 e2 e3 e4 q q1 q2 q3 hb hD hN hf hok hm few
      unfold Bk.agg at kc KK
      go_enter Tryz.func80, Tryz.ntmps80
      go_wp2_with (first
        | (go_at_call 99; refine kr.mono ?_; rintro e w' ⟨rfl, rfl⟩)
        | (go_at_call 111; refine kc.mono ?_; rintro e w2 ⟨rfl, hb2⟩)
        | (go_at_call 113; refine (KK.out _ hb2).mono ?_; rintro e w4 ⟨rfl, hbx, hee⟩; have HE4 := Lib.hid hee; have d1 : ∀ m, (w4.drewN m).cell? ⟨w2.heap.size, 1, none⟩ = some (.string (ofL b.data)) := (fun m => (cell3 hbx).2.1); have d2 : ∀ m, (w4.drewN m).cell? ⟨w2.heap.size, 2, none⟩ = some (.int .i64 b.st) := (fun m => (cell3 hbx).2.2); clear hbx hee))
      go_quiet (fail)
      go_wp2
      go_ret3
      exact ⟨rfl, HE4.out.drewN _⟩
    · have q3 : fndB i V.l = false := decide_eq_false q
      have q2 : fndV i V.l = zeroAg := by unfold fndV; rw [List.getElem?_eq_none (by omega)]
      rw [q2, q3] at kc
      obtain ⟨b, hb⟩ : ∃ b, b = bkOf S V i := ⟨_, rfl⟩
      have hb0 : ((b.at' : Nat) : Int) = i := by rw [hb]; show ((i.toNat : Nat) : Int) = i; omega
      have hD : b.data = parD (sct S V i) := by rw [hb]; rfl
      have hN : b.st = parN (sct S V i) := by rw [hb]; rfl
      -- the world from the box on
      have HW : Hid (∀ w2, Below w.heap.size w w2 → ∀ w5 u0 u1 u2, Below ((w2.alloc (.cells #[.int .i64 0, .string ByteArray.empty, .int .i64 0] 149)).setCell ⟨x, 5, none⟩ (.int .i64 ((V.mis : Int) + 1))).heap.size ((w2.alloc (.cells #[.int .i64 0, .string ByteArray.empty, .int .i64 0] 149)).setCell ⟨x, 5, none⟩ (.int .i64 ((V.mis : Int) + 1))) w5 →
          w5.heap[w2.heap.size]? = some (.cells #[.int .i64 0, .string ByteArray.empty, .int .i64 0] 149 (0, 0)) ∧
          IsV (((w5.setCell ⟨w2.heap.size, 0, none⟩ u0).setCell ⟨w2.heap.size, 1, none⟩ u1).setCell ⟨w2.heap.size, 2, none⟩ u2) Fv x p { V with mis := V.mis + 1 } ∧ IsD (((w5.setCell ⟨w2.heap.size, 0, none⟩ u0).setCell ⟨w2.heap.size, 1, none⟩ u1).setCell ⟨w2.heap.size, 2, none⟩ u2) Fd p S ∧
          Ch Fv w (((w5.setCell ⟨w2.heap.size, 0, none⟩ u0).setCell ⟨w2.heap.size, 1, none⟩ u1).setCell ⟨w2.heap.size, 2, none⟩ u2)) := fun w2 hb2 w5 u0 u1 u2 hb5 => by
        have hx0 : Fv x := hv.1
        have hxl : x < w.heap.size := (h2 x hx0).2
        have hb3 : Below w.heap.size w (w2.alloc (.cells #[.int .i64 0, .string ByteArray.empty, .int .i64 0] 149)) := hb2.trans ((Below.refl w.heap.size w2).alloc hb2.size _)
        have v4 := (hv.below hb3).mis (V.mis + 1)
        have ec : (((V.mis + 1 : Nat) : Int)) = (V.mis : Int) + 1 := by omega
        rw [ec] at v4
        have on6 := On.set3 w2.heap.size w5 u0 u1 u2
        have hs5 := hb5.size
        have hs3 : w2.heap.size < ((w2.alloc (.cells #[.int .i64 0, .string ByteArray.empty, .int .i64 0] 149)).setCell ⟨x, 5, none⟩ (.int .i64 ((V.mis : Int) + 1))).heap.size := by simp [World.setCell]
        have c6 : Ch Fv w (((w5.setCell ⟨w2.heap.size, 0, none⟩ u0).setCell ⟨w2.heap.size, 1, none⟩ u1).setCell ⟨w2.heap.size, 2, none⟩ u2) := by
          refine ⟨on6.os.trans (hb5.os.trans hb3.os), on6.tape.trans (hb5.tape.trans hb3.tape), on6.output.trans (hb5.output.trans hb3.output), ?_, fun k hk hn => ?_⟩
          · rw [on6.size]; exact Nat.le_trans hb2.size (Nat.le_trans (Nat.le_of_lt hs3) hs5)
          · rw [on6.block k (by have := hb2.size; omega), hb5.block k (by have := hb2.size; omega), block_setCell_other (x := ⟨x, 5, none⟩) (fun e => hn (by subst e; exact hx0)), hb3.block k hk]
        refine ⟨?_, ?_, ?_, c6⟩
        · rw [hb5.block _ hs3, block_setCell_other (x := ⟨x, 5, none⟩) (by show w2.heap.size ≠ x; have := hb2.size; omega)]
          exact block_new w2 _
        · refine (v4.below hb5).of_heap fun k hk hF => on6.block k (fun e => ?_)
          have := (h2 k hF).2; have := hb2.size; omega
        · exact hd.of_heap c6.size fun k hk hF => c6.block k hk (h1 k hF).2.1
      have HEW : Hid (∀ W V', IsV W Fv x p V' → IsD W Fd p S → Ch Fv w W → EE F w W x p S V') := fun W V' iv id c => ⟨F, ⟨Fd, Fv, id, iv, fun k hk => ⟨(h1 k hk).1, (h1 k hk).2.1, Nat.lt_of_lt_of_le (h1 k hk).2.2 c.size⟩, fun k hk => ⟨(h2 k hk).1, Nat.lt_of_lt_of_le (h2 k hk).2 c.size⟩⟩, Gr.refl _ _ _, ⟨c.os, c.tape, c.output, c.size, fun k hk hn => c.block k hk (fun z => hn (h2 k z).1)⟩⟩
      have KF : Hid (∀ w2, Below w.heap.size w w2 → Calls Tryz.prog 112 #[.pointer (some ⟨x, 0, none⟩), .int .i64 i] ((w2.alloc (.cells #[.int .i64 0, .string ByteArray.empty, .int .i64 0] 149)).setCell ⟨x, 5, none⟩ (.int .i64 ((V.mis : Int) + 1))) fun e w' => e = .returned (.tuple #[ftV S V i, .int .i64 (parE (sct S V i))]) ∧ Below ((w2.alloc (.cells #[.int .i64 0, .string ByteArray.empty, .int .i64 0] 149)).setCell ⟨x, 5, none⟩ (.int .i64 ((V.mis : Int) + 1))).heap.size ((w2.alloc (.cells #[.int .i64 0, .string ByteArray.empty, .int .i64 0] 149)).setCell ⟨x, 5, none⟩ (.int .i64 ((V.mis : Int) + 1))) w') := fun w2 hb2 => by
        have hx0 : Fv x := hv.1
        have hb3 : Below w.heap.size w (w2.alloc (.cells #[.int .i64 0, .string ByteArray.empty, .int .i64 0] 149)) := hb2.trans ((Below.refl w.heap.size w2).alloc hb2.size _)
        have v4 := (hv.below hb3).mis (V.mis + 1)
        have ec : (((V.mis + 1 : Nat) : Int)) = (V.mis : Int) + 1 := by omega
        rw [ec] at v4
        have d4 : IsD ((w2.alloc (.cells #[.int .i64 0, .string ByteArray.empty, .int .i64 0] 149)).setCell ⟨x, 5, none⟩ (.int .i64 ((V.mis : Int) + 1))) Fd p S := (hd.below hb3).of_heap (by simp [World.setCell]) (fun k hk hF => block_setCell_other (x := ⟨x, 5, none⟩) (fun e => (h1 k hF).2.1 (by subst e; exact hx0)))
        exact fetch_any Fd Fv x p S { V with mis := V.mis + 1 } i _ d4 v4 hf hdd h0 hi
      obtain ⟨m0, hm0⟩ : ∃ m0, m0 = V.mis := ⟨_, rfl⟩
      have HX : Hid (∀ w2, Below w.heap.size w w2 → (w2.alloc (.cells #[.int .i64 0, .string ByteArray.empty, .int .i64 0] 149)).cell? ⟨x, 5, none⟩ = some (.int .i64 (V.mis : Int)) ∧ (w2.alloc (.cells #[.int .i64 0, .string ByteArray.empty, .int .i64 0] 149)).frozen? ⟨x, 5, none⟩ = false) := fun w2 hb2 => by
        have hb3 : Below w.heap.size w (w2.alloc (.cells #[.int .i64 0, .string ByteArray.empty, .int .i64 0] 149)) := hb2.trans ((Below.refl w.heap.size w2).alloc hb2.size _)
        obtain ⟨_, v, hx, _⟩ := hv.below hb3
        obtain ⟨_, _, _, _, _, c5, ff⟩ := IsV.cells (F := Fv) hx
        exact ⟨c5, ff 5⟩
      have hwm : wrap64 ((V.mis : Int) + 1) = (V.mis : Int) + 1 := by unfold wrap64; omega
      by_cases z : parE (sct S V i) = 0
      · have e4 : rdV S V i = { V with mis := V.mis + 1, l := keepL V.most V.l b } := by unfold rdV misOf; rw [if_neg (by simpa using hz), if_pos z, if_neg q, ← hb]
        rw [e1, e2, e3, e4, ← hD, ← hN, z]
        have ef : ftV S V i = b.agg := by unfold ftV; rw [if_pos z, hb]; rfl
        rw [ef, z] at KF
        have KK : Hid (∀ W V', IsV W Fv x p V' → IsD W Fd p S → Ch Fv w W → V'.l = V.l → V'.most = V.most → ∀ g, w.heap.size ≤ g → g < W.heap.size → W.heap[g]? = some (bkObj b) → Calls Tryz.prog 113 #[.pointer (some ⟨x, 0, none⟩), b.agg] W fun e w' => e = .returned (.tuple #[]) ∧ w'.heap[g]? = some (bkObj b) ∧ EE F w w' x p S { V' with l := keepL V.most V.l b }) := fun W V' iv id c el em g hg hgw hbx => by
          have hkeep := keep_any Fv x p V' b W iv (fun k hk => Nat.lt_of_lt_of_le (h2 k hk).2 c.size) (by rw [el]; exact few)
          refine hkeep.mono ?_
          rintro e w' ⟨rfl, ht⟩
          refine ⟨rfl, ?_, ?_⟩
          · obtain ⟨F', _, _, c2⟩ := ht
            rw [c2.block g hgw (fun z => by have := (h2 _ z).2; omega)]
            exact hbx
          · have e7 : keepL V'.most V'.l b = keepL V.most V.l b := by rw [el, em]
            rw [e7] at ht
            have := EE.dev (F := F) id (fun k hk => ⟨(h1 k hk).1, (h1 k hk).2.1, Nat.lt_of_lt_of_le (h1 k hk).2.2 c.size⟩) (fun k hk => ⟨(h2 k hk).1, Nat.lt_of_lt_of_le (h2 k hk).2 c.size⟩) ht
            exact EE.trans (Gr.refl _ _ _) ⟨c.os, c.tape, c.output, c.size, fun k hk hn => c.block k hk (fun z => hn (h2 k z).1)⟩ this
        clear hE hd hv h1 h2 hz hdd h0 hi hco e1 e2 e3 e4 q q2 q3 hb hD hN hf hok hm few z ef hm0 hb0
        unfold Bk.agg at KK KF
        unfold zeroAg at kc
        go_enter Tryz.func80, Tryz.ntmps80
        go_wp2_with (first
          | (go_at_call 99; refine kr.mono ?_; rintro e w' ⟨rfl, rfl⟩)
          | (go_at_call 111; refine kc.mono ?_; rintro e w2 ⟨rfl, hb2⟩; obtain ⟨x5, f5⟩ := HX.out w2 hb2)
          | (go_at_call 112; refine (KF.out w2 hb2).mono ?_; rintro e w5 ⟨rfl, hb5⟩; obtain ⟨hbx, iv6, id6, c6⟩ := HW.out w2 hb2 w5 (.int .i64 (b.at' : Int)) (.string (ofL b.data)) (.int .i64 b.st) hb5; have e0 : w5.cell? ⟨w2.heap.size, 0, none⟩ = some (.int .i64 0) := (by rw [cell_of_row _ _ _ _ _ _ hbx]; rfl); have e1 : w5.cell? ⟨w2.heap.size, 1, none⟩ = some (.string ByteArray.empty) := (by rw [cell_of_row _ _ _ _ _ _ hbx]; rfl); have e2 : w5.cell? ⟨w2.heap.size, 2, none⟩ = some (.int .i64 0) := (by rw [cell_of_row _ _ _ _ _ _ hbx]; rfl); have f0 := block_free (o := 0) hbx; have f1 := block_free (o := 1) hbx; have f2 := block_free (o := 2) hbx; have hbx6 := setAg3 hbx (.int .i64 (b.at' : Int)) (.string (ofL b.data)) (.int .i64 b.st); have K66 := Lib.hid (KK.out _ _ iv6 id6 c6 rfl rfl w2.heap.size hb2.size (block_lt hbx6) hbx6); clear hbx hbx6 iv6 id6 c6 hb5)
          | (go_at_call 113; (with_reducible refine K66.out.mono ?_); rintro e w7 ⟨rfl, hbx, hee⟩; have HE7 := Lib.hid hee; have d1 : ∀ m, (w7.drewN m).cell? ⟨w2.heap.size, 1, none⟩ = some (.string (ofL b.data)) := (fun m => (cell3 hbx).2.1); have d2 : ∀ m, (w7.drewN m).cell? ⟨w2.heap.size, 2, none⟩ = some (.int .i64 b.st) := (fun m => (cell3 hbx).2.2); clear hbx hee))
        go_quiet (fail)
        go_wp2
        go_ret3
        exact ⟨rfl, HE7.out.drewN _⟩
      · have e4 : rdV S V i = { V with mis := V.mis + 1 } := by unfold rdV misOf; rw [if_neg (by simpa using hz), if_neg z, if_neg q]
        have e5 : parD (sct S V i) = [] := by unfold parD; rw [if_neg z]
        have e6 : parN (sct S V i) = 0 := by unfold parN; rw [if_neg z]
        rw [e1, e2, e3, e4, e5, e6]
        have ef : ftV S V i = zeroAg := by unfold ftV; rw [if_neg z]
        rw [ef] at KF
        obtain ⟨E, hE'⟩ : ∃ E, E = parE (sct S V i) := ⟨_, rfl⟩
        rw [← hE'] at KF z ⊢
        have hne : (E != 0) = true := by simp [z]
        clear hE hd hv h1 h2 hz hdd h0 hi hco e1 e2 e3 e4 e5 e6 q q2 q3 hb hD hN hf hok hm few z ef hm0 hE' hb0
        unfold zeroAg at kc KF
        go_enter Tryz.func80, Tryz.ntmps80
        go_wp2_with (first
          | (go_at_call 99; refine kr.mono ?_; rintro e w' ⟨rfl, rfl⟩)
          | (go_at_call 111; refine kc.mono ?_; rintro e w2 ⟨rfl, hb2⟩; obtain ⟨x5, f5⟩ := HX.out w2 hb2)
          | (go_at_call 112; refine (KF.out w2 hb2).mono ?_; rintro e w5 ⟨rfl, hb5⟩; obtain ⟨hbx, iv6, id6, c6⟩ := HW.out w2 hb2 w5 (.int .i64 0) (.string ByteArray.empty) (.int .i64 0) hb5; have e0 : w5.cell? ⟨w2.heap.size, 0, none⟩ = some (.int .i64 0) := (by rw [cell_of_row _ _ _ _ _ _ hbx]; rfl); have e1 : w5.cell? ⟨w2.heap.size, 1, none⟩ = some (.string ByteArray.empty) := (by rw [cell_of_row _ _ _ _ _ _ hbx]; rfl); have e2 : w5.cell? ⟨w2.heap.size, 2, none⟩ = some (.int .i64 0) := (by rw [cell_of_row _ _ _ _ _ _ hbx]; rfl); have f0 := block_free (o := 0) hbx; have f1 := block_free (o := 1) hbx; have f2 := block_free (o := 2) hbx; have H6 := Lib.hid (And.intro (setAg3 hbx (.int .i64 0) (.string ByteArray.empty) (.int .i64 0)) (And.intro iv6 (And.intro id6 c6))); clear hbx iv6 id6 c6 hb5))
        go_ret3
        exact ⟨rfl, HEW.out _ _ H6.out.2.1 H6.out.2.2.1 H6.out.2.2.2⟩
  · have hz' : refE S V i ≠ 0 := hz
    have e1 : rdE S V i = refE S V i := by unfold rdE; rw [if_pos hz']
    have e2 : rdD S V i = [] := by unfold rdD; rw [if_pos hz']
    have e3 : rdN S V i = 0 := by unfold rdN; rw [if_pos hz']
    have e4 : rdV S V i = V := by unfold rdV; rw [if_pos hz']
    rw [e1, e2, e3, e4]
    clear e1 e2 e3 e4 hE hd hv h1 h2 hf hok few hco hm
    generalize refE S V i = E at *
    have hne : (E != 0) = true := by simp [hz]
    go_enter Tryz.func80, Tryz.ntmps80
    go_wp2_with (go_at_call 99; refine kr.mono ?_; rintro e w' ⟨rfl, rfl⟩)
    go_ret3
    exact ⟨rfl, HEE.out⟩
end Go.Proofs.YtjippoejaieneaaGreat
