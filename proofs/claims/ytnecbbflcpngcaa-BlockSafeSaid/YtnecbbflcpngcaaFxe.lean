/- The calls on an extent whose blocks all lie behind a mark, and the law's own fixed. Conditions: an int is within 64 bits, a string is no longer than a machine holds. -/
import Derived.Test.YtnecbbflcpngcaaPur
import Derived.Laws.Concat
namespace Go.Proofs.Ytnecbbflcpngcaa
open Go.RowKit Go.Maps Go.Lib
set_option maxRecDepth 20000
set_option linter.unusedVariables false

structure EAt (w : World) (B x p : Nat) (S : St) (V : Dv) : Prop where
  base : B ≤ w.heap.size
  sok : S.ok
  good : Good S V
  ex : ∃ F, IsE w F x p S V ∧ ∀ k, F k → B ≤ k
theorem EAt.below {w w' : World} {B x p : Nat} {S : St} {V : Dv} (h : EAt w B x p S V) (hb : Below w.heap.size w w') : EAt w' B x p S V := by
  obtain ⟨h1, h2, h3, F, h4, h5⟩ := h
  exact ⟨Nat.le_trans h1 hb.size, h2, h3, F, h4.below hb, h5⟩
theorem EAt.of {w w' : World} {B x p : Nat} {F : Nat → Prop} {S' : St} {V' : Dv} (hB : B ≤ w.heap.size) (hF : ∀ k, F k → B ≤ k) (ho : S'.ok) (hg : Good S' V') (h : EE F w w' x p S' V') : EAt w' B x p S' V' ∧ Below B w w' := by
  obtain ⟨F', i, g, c⟩ := h
  refine ⟨⟨Nat.le_trans hB c.size, ho, hg, F', i, fun k hk => ?_⟩, c.below hB hF⟩
  rcases g k hk with z | z
  · exact hF k z
  · omega
theorem eread_at (B x p : Nat) (S : St) (V : Dv) (i : Int) (w : World) (h : EAt w B x p S V) (hm : V.mis < 4611686018427387904) :
    Calls Try.prog 34 #[.pointer (some ⟨x, 0, none⟩), .int .i64 i] w fun e w' => e = .returned (.tuple #[.string (ofL (rdD S V i)), .int .i64 (rdN S V i), .int .i64 (rdE S V i)]) ∧ EAt w' B x p S (rdV S V i) ∧ Below B w w' := by
  obtain ⟨h1, h2, h3, F, h4, h5⟩ := h
  exact (dread_any F x p S V i w h4 h3.ok h3.fit h3.coh hm).mono fun e w' q => ⟨q.1, EAt.of h1 h5 h2 (h3.read i) q.2⟩
theorem estamp_at (B x p : Nat) (S : St) (V : Dv) (i : Int) (w : World) (h : EAt w B x p S V) :
    Calls Try.prog 37 #[.pointer (some ⟨x, 0, none⟩), .int .i64 i] w fun e w' => e = .returned (.tuple #[.int .i64 (stN S V i), .int .i64 (stE S V i)]) ∧ EAt w' B x p S V ∧ Below w.heap.size w w' := by
  have hh := h
  obtain ⟨h1, h2, h3, F, h4, h5⟩ := h
  exact (stamp_any F x p S V i w h4 h3.fit).mono fun e w' q => ⟨q.1, hh.below q.2, q.2⟩
theorem ewrite_at (B x p : Nat) (S : St) (V : Dv) (i : Int) (d : ByteArray) (n : Int) (w : World) (h : EAt w B x p S V) (hsz : d.size ≤ 281474976710656) :
    Calls Try.prog 32 #[.pointer (some ⟨x, 0, none⟩), .int .i64 i, .string d, .int .i64 n] w fun e w' => e = .returned (.int .i64 (wrE S V i d.data.toList n)) ∧ EAt w' B x p (wrS S V i d.data.toList n) (wrV S V i d.data.toList n) ∧ Below B w w' := by
  obtain ⟨h1, h2, h3, F, h4, h5⟩ := h
  obtain ⟨g1, g2, _⟩ := h3.write h2 i d.data.toList n
  exact (dwrite_any F x p S V i d n w h4 h3.ok h3.fit hsz).mono fun e w' q => ⟨q.1, EAt.of h1 h5 g2 g1 q.2⟩
theorem ebarrier_at (B x p : Nat) (S : St) (V : Dv) (w : World) (h : EAt w B x p S V) :
    Calls Try.prog 33 #[.pointer (some ⟨x, 0, none⟩)] w fun e w' => e = .returned (.int .i64 (S.flush (V.first : Int) (V.cnt : Int)).2) ∧ EAt w' B x p (S.flush (V.first : Int) (V.cnt : Int)).1 V ∧ Below B w w' := by
  obtain ⟨h1, h2, h3, F, h4, h5⟩ := h
  exact (barrier_any F x p S V w h4 h3.fit).mono fun e w' q => ⟨q.1, EAt.of h1 h5 (h2.flush _ _).1 (h3.flush h2) q.2⟩
theorem emisses_at (B x p : Nat) (S : St) (V : Dv) (w : World) (h : EAt w B x p S V) :
    Calls Try.prog 26 #[.pointer (some ⟨x, 0, none⟩)] w fun e w' => e = .returned (.int .i64 (V.mis : Int)) ∧ w = w' := by
  obtain ⟨h1, h2, h3, F, ⟨Fd, Fv, _, hv, _⟩, h5⟩ := h
  exact misses_any Fv x p V w hv
theorem ecount_at (B x p : Nat) (S : St) (V : Dv) (w : World) (h : EAt w B x p S V) :
    Calls Try.prog 27 #[.pointer (some ⟨x, 0, none⟩)] w fun e w' => e = .returned (.int .i64 (V.cnt : Int)) ∧ w = w' := by
  obtain ⟨h1, h2, h3, F, ⟨Fd, Fv, _, hv, _⟩, h5⟩ := h
  exact count_any' Fv x p V w hv
/-- the extent's disk alone -/
theorem EAt.disk {w : World} {B x p : Nat} {S : St} {V : Dv} (h : EAt w B x p S V) : At w B p S := by
  obtain ⟨h1, h2, h3, F, ⟨Fd, Fv, hd, _, g1, _⟩, h5⟩ := h
  exact ⟨Fd, hd, fun k hk => ⟨h5 k (g1 k hk).1, (g1 k hk).2.2⟩⟩
theorem enew_at (B p : Nat) (S : St) (f c m : Int) (w : World) (h : At w B p S) (hB : B ≤ w.heap.size) (hf : In64 f) (hc : In64 c) (hm : In64 m) (hn : nwE S f c m = 0) :
    Calls Try.prog 19 #[.pointer (some ⟨p, 0, none⟩), .int .i64 f, .int .i64 c, .int .i64 m] w fun e w' => e = .returned (.tuple #[.pointer (some ⟨w.heap.size, 0, none⟩), .int .i64 0]) ∧ EAt w' B w.heap.size p S (newV f c m) ∧ Below w.heap.size w w' := by
  obtain ⟨F, hd, hF⟩ := h
  refine (dnew_any F p S f c m w hd hf hc hm).mono fun e w' q => ?_
  rw [if_pos hn] at q
  obtain ⟨rfl, rfl⟩ := q
  have hb : Below w.heap.size w (w.alloc (.cells (dvCells p (.slice none 0 0) (newV f c m)) 99)) := (Below.refl _ w).alloc (Nat.le_refl _) _
  have hs : (w.alloc (.cells (dvCells p (.slice none 0 0) (newV f c m)) 99)).heap.size = w.heap.size + 1 := by simp
  refine ⟨rfl, ⟨by rw [hs]; omega, hd.ok, newV_good hd.ok hn, fun k => F k ∨ k = w.heap.size, ⟨F, fun k => k = w.heap.size, hd.below hb, ⟨rfl, .slice none 0 0, block_new w _, World.ownsRow_nil _ _ _ _, (fun j hj => by cases hj), Nat.zero_le _⟩, fun k hk => ⟨.inl hk, fun e => by have := (hF k hk).2; omega, by rw [hs]; have := (hF k hk).2; omega⟩, fun k hk => ⟨.inr hk, by rw [hs]; omega⟩⟩, fun k hk => ?_⟩, hb⟩
  rcases hk with hk | hk
  · exact (hF k hk).1
  · omega
theorem enew_no (B p : Nat) (S : St) (f c m : Int) (w : World) (h : At w B p S) (hf : In64 f) (hc : In64 c) (hm : In64 m) (hn : nwE S f c m ≠ 0) :
    Calls Try.prog 19 #[.pointer (some ⟨p, 0, none⟩), .int .i64 f, .int .i64 c, .int .i64 m] w fun e w' => e = .returned (.tuple #[.pointer none, .int .i64 150]) ∧ w = w' := by
  obtain ⟨F, hd, hF⟩ := h
  refine (dnew_any F p S f c m w hd hf hc hm).mono fun e w' q => ?_
  rw [if_neg hn] at q
  exact ⟨q.1, q.2.symm⟩
def fS0 : St := newS (List.replicate 256 0)
def fV0 : Dv := newV 0 2 1
def fS1 : St := wrS fS0 fV0 0 [97] 5
def fV1 : Dv := wrV fS0 fV0 0 [97] 5
def fV2 : Dv := rdV fS1 fV1 0
def fV3 : Dv := rdV fS1 fV2 1
def fV4 : Dv := rdV fS1 fV3 2
theorem f_a : wrE fS0 fV0 0 [97] 5 = 0 := by decide +kernel
theorem f_b : rdD fS1 fV1 0 = 97 :: List.replicate 115 0 ∧ rdN fS1 fV1 0 = 5 ∧ rdE fS1 fV1 0 = 0 := by decide +kernel
theorem f_c : rdE fS1 fV2 1 = 153 ∧ rdE fS1 fV3 2 = 151 := by decide +kernel
theorem f_d : stN fS1 fV4 1 = 0 ∧ stE fS1 fV4 1 = 0 ∧ fV4.mis = 1 ∧ fV1.mis = 0 ∧ fV2.mis = 0 ∧ fV3.mis = 1 := by decide +kernel
theorem f_e : (fS1.flush (fV4.first : Int) (fV4.cnt : Int)).2 = 0 := by decide +kernel
theorem f_f : bytE [] 1 = 0 ∧ (bytS [] 1).length = 128 ∧ (bytS [] 1).getD 127 0 = 1 ∧ bytE (List.replicate 117 0) 0 = 152 ∧ nwE fS0 0 2 1 = 0 := by decide +kernel
set_option maxHeartbeats 4000000 in
theorem fixed_any (w : World) : Calls Try.prog 14 #[] w fun e w' => e = .returned (.bool true) ∧ Below w.heap.size w w' := by
  obtain ⟨Z1, hZ1⟩ : ∃ Z, Z = ofL (List.replicate 256 0) := ⟨_, rfl⟩
  obtain ⟨Z2, hZ2⟩ : ∃ Z, Z = ofL (List.replicate 117 0) := ⟨_, rfl⟩
  obtain ⟨Z3, hZ3⟩ : ∃ Z, Z = ofL (List.replicate 115 0) := ⟨_, rfl⟩
  obtain ⟨A, hA⟩ : ∃ A, A = ofL (97 :: List.replicate 115 0) := ⟨_, rfl⟩
  have hcat : (ByteArray.mk #[97] ++ Z3 : ByteArray) = A := by
    rw [hZ3, hA]
    apply ByteArray.ext
    apply Array.ext'
    simp [ofL]
  have hz3 : Z3.size = 115 := by rw [hZ3, ofL_size, List.length_replicate]
  have kn : Hid (∀ W, Calls Try.prog 15 #[.int .i64 256] W fun e w' => e = .returned (.string Z1) ∧ Below W.heap.size W w') := fun W => by rw [hZ1]; exact noughts_any 256 (by omega) W
  have kn2 : Hid (∀ W, Calls Try.prog 15 #[.int .i64 117] W fun e w' => e = .returned (.string Z2) ∧ Below W.heap.size W w') := fun W => by rw [hZ2]; exact noughts_any 117 (by omega) W
  have kn3 : Hid (∀ W, Calls Try.prog 15 #[.int .i64 115] W fun e w' => e = .returned (.string Z3) ∧ Below W.heap.size W w') := fun W => by rw [hZ3]; exact noughts_any 115 (by omega) W
  have kd : Hid (∀ W, Calls Try.prog 17 #[.string Z1] W fun e w' => ∃ p, e = .returned (.tuple #[.pointer (some ⟨p, 0, none⟩), .int .i64 0]) ∧ At w' W.heap.size p fS0 ∧ Below W.heap.size W w') := fun W => by
    have := new_at (ofL (List.replicate 256 0)) W (by rw [ofL_size]; simp) (by unfold Bad; rw [ofL_size]; simp)
    rw [ofL_list] at this
    rw [hZ1]
    exact this
  have kv : Hid (∀ W B p, At W B p fS0 → B ≤ W.heap.size → Calls Try.prog 19 #[.pointer (some ⟨p, 0, none⟩), .int .i64 0, .int .i64 2, .int .i64 1] W fun e w' => e = .returned (.tuple #[.pointer (some ⟨W.heap.size, 0, none⟩), .int .i64 0]) ∧ EAt w' B W.heap.size p fS0 fV0 ∧ Below W.heap.size W w') := fun W B p h hB =>
    enew_at B p fS0 0 2 1 W h hB (by unfold In64; omega) (by unfold In64; omega) (by unfold In64; omega) f_f.2.2.2.2
  have kw : Hid (∀ W B x p, EAt W B x p fS0 fV0 → Calls Try.prog 32 #[.pointer (some ⟨x, 0, none⟩), .int .i64 0, .string ⟨#[97]⟩, .int .i64 5] W fun e w' => e = .returned (.int .i64 0) ∧ EAt w' B x p fS1 fV1 ∧ Below B W w') := fun W B x p h => by
    have := ewrite_at B x p fS0 fV0 0 ⟨#[97]⟩ 5 W h (by decide)
    rw [show (wrE fS0 fV0 0 (ByteArray.mk #[97]).data.toList 5) = 0 from f_a] at this
    exact this
  have k1 : Hid (∀ W B x p, EAt W B x p fS1 fV1 → Calls Try.prog 34 #[.pointer (some ⟨x, 0, none⟩), .int .i64 0] W fun e w' => e = .returned (.tuple #[.string A, .int .i64 5, .int .i64 0]) ∧ EAt w' B x p fS1 fV2 ∧ Below B W w') := fun W B x p h => by
    have := eread_at B x p fS1 fV1 0 W h (by rw [f_d.2.2.2.1]; decide)
    rw [f_b.1, f_b.2.1, f_b.2.2, ← hA] at this
    exact this
  have k2 : Hid (∀ W B x p, EAt W B x p fS1 fV2 → Calls Try.prog 34 #[.pointer (some ⟨x, 0, none⟩), .int .i64 1] W fun e w' => (∃ s n, e = .returned (.tuple #[.string s, .int .i64 n, .int .i64 153])) ∧ EAt w' B x p fS1 fV3 ∧ Below B W w') := fun W B x p h => by
    have := eread_at B x p fS1 fV2 1 W h (by rw [f_d.2.2.2.2.1]; decide)
    rw [f_c.1] at this
    exact this.mono fun e w' q => ⟨⟨_, _, q.1⟩, q.2⟩
  have k3 : Hid (∀ W B x p, EAt W B x p fS1 fV3 → Calls Try.prog 34 #[.pointer (some ⟨x, 0, none⟩), .int .i64 2] W fun e w' => (∃ s n, e = .returned (.tuple #[.string s, .int .i64 n, .int .i64 151])) ∧ EAt w' B x p fS1 fV4 ∧ Below B W w') := fun W B x p h => by
    have := eread_at B x p fS1 fV3 2 W h (by rw [f_d.2.2.2.2.2]; decide)
    rw [f_c.2] at this
    exact this.mono fun e w' q => ⟨⟨_, _, q.1⟩, q.2⟩
  have k4 : Hid (∀ W B x p, EAt W B x p fS1 fV4 → Calls Try.prog 37 #[.pointer (some ⟨x, 0, none⟩), .int .i64 1] W fun e w' => e = .returned (.tuple #[.int .i64 0, .int .i64 0]) ∧ EAt w' B x p fS1 fV4 ∧ Below W.heap.size W w') := fun W B x p h => by
    have := estamp_at B x p fS1 fV4 1 W h
    rw [f_d.1, f_d.2.1] at this
    exact this
  obtain ⟨T, hT⟩ : ∃ T, T = ofL (bytS [] 1) := ⟨_, rfl⟩
  have hTs : T.size = 128 := by rw [hT, ofL_size]; exact f_f.2.1
  have k5 : Hid (∀ W, Calls Try.prog 10 #[.string ⟨#[]⟩, .int .i64 1] W fun e w' => e = .returned (.tuple #[.string T, .int .i64 0]) ∧ Below W.heap.size W w') := fun W => by
    have := bytes_any ⟨#[]⟩ 1 W (by decide)
    rw [show bytE (ByteArray.mk #[]).data.toList 1 = 0 from f_f.1, show bytS (ByteArray.mk #[]).data.toList 1 = bytS [] 1 from rfl, ← hT] at this
    exact this
  have k6 : Hid (∀ W, Calls Try.prog 10 #[.string Z2, .int .i64 0] W fun e w' => (∃ s, e = .returned (.tuple #[.string s, .int .i64 152])) ∧ Below W.heap.size W w') := fun W => by
    have := bytes_any (ofL (List.replicate 117 0)) 0 W (by rw [ofL_size]; simp)
    rw [ofL_list, f_f.2.2.2.1, ← hZ2] at this
    exact this.mono fun e w' q => ⟨⟨_, q.1⟩, q.2⟩
  have k7 : Hid (∀ W B x p, EAt W B x p fS1 fV4 → Calls Try.prog 26 #[.pointer (some ⟨x, 0, none⟩)] W fun e w' => e = .returned (.int .i64 1) ∧ W = w') := fun W B x p h => by
    have := emisses_at B x p fS1 fV4 W h
    rw [f_d.2.2.1] at this
    exact this
  have k8 : Hid (∀ W B x p, EAt W B x p fS1 fV4 → Calls Try.prog 33 #[.pointer (some ⟨x, 0, none⟩)] W fun e w' => e = .returned (.int .i64 0) ∧ Below B W w') := fun W B x p h => by
    have := ebarrier_at B x p fS1 fV4 W h
    rw [f_e] at this
    exact this.mono fun e w' q => ⟨q.1, q.2.2⟩
  have hT127 : T.data.toList.getD 127 0 = 1 := by rw [hT, ofL_list]; exact f_f.2.2.1
  have h127 : ((T[127]'(by rw [hTs]; decide)).toNat : Int) = 1 := by
    have e : T.data.toList.getD 127 0 = T[127]'(by rw [hTs]; decide) := by
      rw [List.getD_eq_getElem?_getD, List.getElem?_eq_getElem (by rw [baList, hTs]; decide)]
      rfl
    rw [← e, hT127]; rfl
  clear hZ1 hZ2 hZ3 hA hT hT127
  go_enter Try.func14, Try.ntmps14
  go_wp2_with (first
    | (go_at_call 15; (with_reducible refine (kn.out _).mono ?_); rintro e w1 ⟨rfl, hb1⟩)
    | (go_at_call 17; (refine (kd.out _).mono ?_); rintro e w2 ⟨p, rfl, hat, hb2⟩; have HA2 := Lib.hid hat; have HB2 : Hid (Below w.heap.size w w2) := hb1.trans (hb2.mono hb1.size); have HM : Hid (w.heap.size ≤ w1.heap.size) := hb1.size; have HZ : Hid (w1.heap.size ≤ w2.heap.size) := hb2.size; clear hat hb1 hb2)
    | (go_at_call 19; (refine (kv.out _ _ _ HA2.out HZ.out).mono ?_); rintro e w3 ⟨rfl, he, hb3⟩; have HE3 := Lib.hid he; have HB3 : Hid (Below w.heap.size w w3) := HB2.out.trans (hb3.mono HB2.out.size); clear he hb3)
    | (go_at_call 32; (refine (kw.out _ _ _ _ HE3.out).mono ?_); rintro e w4 ⟨rfl, he, hb4⟩; have HE4 := Lib.hid he; have HB4 : Hid (Below w.heap.size w w4) := HB3.out.trans (hb4.mono HM.out); clear he hb4)
    | (go_at_call 34; (with_reducible refine (k1.out _ _ _ _ HE4.out).mono ?_); rintro e w5 ⟨rfl, he, hb5⟩; have HE5 := Lib.hid he; have HB5 : Hid (Below w.heap.size w w5) := HB4.out.trans (hb5.mono HM.out); clear he hb5)
    | (go_at_call 34; (with_reducible refine (k2.out _ _ _ _ HE5.out).mono ?_); rintro e w6 ⟨⟨s6, n6, rfl⟩, he, hb6⟩; have HE6 := Lib.hid he; have HB6 : Hid (Below w.heap.size w w6) := HB5.out.trans (hb6.mono HM.out); clear he hb6)
    | (go_at_call 34; (with_reducible refine (k3.out _ _ _ _ HE6.out).mono ?_); rintro e w7 ⟨⟨s7, n7, rfl⟩, he, hb7⟩; have HE7 := Lib.hid he; have HB7 : Hid (Below w.heap.size w w7) := HB6.out.trans (hb7.mono HM.out); clear he hb7)
    | (go_at_call 37; (with_reducible refine (k4.out _ _ _ _ HE7.out).mono ?_); rintro e w8 ⟨rfl, he, hb8⟩; have HE8 := Lib.hid he; have HB8 : Hid (Below w.heap.size w w8) := HB7.out.trans (hb8.mono HB7.out.size); clear he hb8)
    | (go_at_call 10; (with_reducible refine (k5.out _).mono ?_); rintro e w9 ⟨rfl, hb9⟩; have HE9 := Lib.hid (HE8.out.below hb9); have HB9 : Hid (Below w.heap.size w w9) := HB8.out.trans (hb9.mono HB8.out.size); clear hb9)
    | (go_at_call 15; (with_reducible refine (kn2.out _).mono ?_); rintro e wa ⟨rfl, hba⟩; have HEa := Lib.hid (HE9.out.below hba); have HBa : Hid (Below w.heap.size w wa) := HB9.out.trans (hba.mono HB9.out.size); clear hba)
    | (go_at_call 10; (with_reducible refine (k6.out _).mono ?_); rintro e wb ⟨⟨sb, rfl⟩, hbb⟩; have HEb := Lib.hid (HEa.out.below hbb); have HBb : Hid (Below w.heap.size w wb) := HBa.out.trans (hbb.mono HBa.out.size); clear hbb)
    | (go_at_call 15; (with_reducible refine (kn3.out _).mono ?_); rintro e wc ⟨rfl, hbc⟩; have HEc := Lib.hid (HEb.out.below hbc); have HBc : Hid (Below w.heap.size w wc) := HBb.out.trans (hbc.mono HBb.out.size); clear hbc)
    | (go_at_call 26; (with_reducible refine (k7.out _ _ _ _ HEc.out).mono ?_); rintro e wd ⟨rfl, rfl⟩)
    | (go_at_call 33; (with_reducible refine (k8.out _ _ _ _ HEc.out).mono ?_); rintro e we ⟨rfl, hbe⟩; have HBe : Hid (Below w.heap.size w we) := HBc.out.trans (hbe.mono HM.out); clear hbe))
  go_ret
  exact ⟨rfl, HBe.out⟩
end Go.Proofs.Ytnecbbflcpngcaa
