/- Two extents over two disks side by side: what a call on one of them keeps. Conditions: ints are within 64 bits, strings are no longer than a machine holds. -/
import Derived.Test.YtnecbbflcpngcaaFxe
namespace Go.Proofs.Ytnecbbflcpngcaa
open Go.RowKit Go.Maps Go.Lib
set_option maxRecDepth 20000
set_option linter.unusedVariables false

/-- two extents over two disks, and blocks that no call on them touches -/
structure Two (w : World) (E : Nat → Prop) (x p : Nat) (S : St) (V : Dv) (y q : Nat) (T : St) (U : Dv) : Prop where
  so : S.ok
  to : T.ok
  gx : Good S V
  gy : Good T U
  lt : ∀ k, E k → k < w.heap.size
  ex : ∃ F G : Nat → Prop, IsE w F x p S V ∧ IsE w G y q T U ∧ (∀ k, F k → ¬ G k ∧ ¬ E k ∧ k < w.heap.size) ∧ ∀ k, G k → ¬ E k ∧ k < w.heap.size
theorem Two.swap {w : World} {E : Nat → Prop} {x p : Nat} {S : St} {V : Dv} {y q : Nat} {T : St} {U : Dv} (h : Two w E x p S V y q T U) : Two w E y q T U x p S V := by
  obtain ⟨h1, h2, h3, h4, h5, F, G, hx, hy, d1, d2⟩ := h
  exact ⟨h2, h1, h4, h3, h5, G, F, hy, hx, fun k hk => ⟨fun hF => (d1 k hF).1 hk, d2 k hk⟩, fun k hk => (d1 k hk).2⟩
theorem Two.of {w w' : World} {E F G : Nat → Prop} {x p : Nat} {S' : St} {V' : Dv} {y q : Nat} {T : St} {U : Dv} (so : S'.ok) (to : T.ok) (gx : Good S' V') (gy : Good T U) (lt : ∀ k, E k → k < w.heap.size)
    (hy : IsE w G y q T U) (d1 : ∀ k, F k → ¬ G k ∧ ¬ E k ∧ k < w.heap.size) (d2 : ∀ k, G k → ¬ E k ∧ k < w.heap.size) (h : EE F w w' x p S' V') : Two w' E x p S' V' y q T U ∧ Ch (fun k => ¬ E k) w w' := by
  obtain ⟨F', ⟨Fd, Fv, hd, hv, g1, g2⟩, gr, c⟩ := h
  have key : ∀ k, F' k → ¬ G k ∧ ¬ E k := fun k hk => by
    rcases gr k hk with z | z
    · exact ⟨(d1 k z).1, (d1 k z).2.1⟩
    · exact ⟨fun hG => by have := (d2 k hG).2; omega, fun hE => by have := lt k hE; omega⟩
  refine ⟨⟨so, to, gx, gy, fun k hk => Nat.lt_of_lt_of_le (lt k hk) c.size, fun k => Fd k ∨ Fv k, G, ⟨Fd, Fv, hd, hv, fun k hk => ⟨.inl hk, (g1 k hk).2⟩, fun k hk => ⟨.inr hk, (g2 k hk).2⟩⟩,
    hy.of_heap c.size (fun k hk hG => c.block k hk (fun hF => (d1 k hF).1 hG)), fun k hk => ?_, fun k hk => ⟨(d2 k hk).1, Nat.lt_of_lt_of_le (d2 k hk).2 c.size⟩⟩,
    ⟨c.os, c.tape, c.output, c.size, fun k hk hn => c.block k hk (fun hF => hn (d1 k hF).2.1)⟩⟩
  rcases hk with hk | hk
  · exact ⟨(key k (g1 k hk).1).1, (key k (g1 k hk).1).2, (g1 k hk).2.2⟩
  · exact ⟨(key k (g2 k hk).1).1, (key k (g2 k hk).1).2, (g2 k hk).2⟩
theorem Two.below {w w' : World} {E : Nat → Prop} {x p : Nat} {S : St} {V : Dv} {y q : Nat} {T : St} {U : Dv} (h : Two w E x p S V y q T U) (hb : Below w.heap.size w w') : Two w' E x p S V y q T U := by
  obtain ⟨h1, h2, h3, h4, h5, F, G, hx, hy, d1, d2⟩ := h
  exact ⟨h1, h2, h3, h4, fun k hk => Nat.lt_of_lt_of_le (h5 k hk) hb.size, F, G, hx.below hb, hy.below hb, fun k hk => ⟨(d1 k hk).1, (d1 k hk).2.1, Nat.lt_of_lt_of_le (d1 k hk).2.2 hb.size⟩, fun k hk => ⟨(d2 k hk).1, Nat.lt_of_lt_of_le (d2 k hk).2 hb.size⟩⟩
/-- more blocks, or fewer, that are not touched -/
theorem Two.less {w : World} {E E' : Nat → Prop} {x p : Nat} {S : St} {V : Dv} {y q : Nat} {T : St} {U : Dv} (h : Two w E x p S V y q T U) (e : ∀ k, E' k → E k) : Two w E' x p S V y q T U := by
  obtain ⟨h1, h2, h3, h4, h5, F, G, hx, hy, d1, d2⟩ := h
  exact ⟨h1, h2, h3, h4, fun k hk => h5 k (e k hk), F, G, hx, hy, fun k hk => ⟨(d1 k hk).1, fun z => (d1 k hk).2.1 (e k z), (d1 k hk).2.2⟩, fun k hk => ⟨fun z => (d2 k hk).1 (e k z), (d2 k hk).2⟩⟩
theorem Two.box {w : World} {E : Nat → Prop} {x p : Nat} {S : St} {V : Dv} {y q : Nat} {T : St} {U : Dv} (h : Two w E x p S V y q T U) (o : Obj) : Two (w.alloc o) (fun k => E k ∨ k = w.heap.size) x p S V y q T U := by
  obtain ⟨h1, h2, h3, h4, h5, F, G, hx, hy, d1, d2⟩ := h
  have hb : Below w.heap.size w (w.alloc o) := (Below.refl _ w).alloc (Nat.le_refl _) _
  have hs : (w.alloc o).heap.size = w.heap.size + 1 := by simp
  refine ⟨h1, h2, h3, h4, fun k hk => ?_, F, G, hx.below hb, hy.below hb, fun k hk => ⟨(d1 k hk).1, ?_, ?_⟩, fun k hk => ⟨?_, ?_⟩⟩
  · rcases hk with hk | hk
    · have := h5 k hk; omega
    · omega
  · rintro (z | z)
    · exact (d1 k hk).2.1 z
    · have := (d1 k hk).2.2; omega
  · have := (d1 k hk).2.2; omega
  · rintro (z | z)
    · exact (d2 k hk).1 z
    · have := (d2 k hk).2; omega
  · have := (d2 k hk).2; omega
theorem tread (E : Nat → Prop) (x p y q : Nat) (S T : St) (V U : Dv) (i : Int) (w : World) (h : Two w E x p S V y q T U) (hm : V.mis < 4611686018427387904) :
    Calls Try.prog 34 #[.pointer (some ⟨x, 0, none⟩), .int .i64 i] w fun e w' => e = .returned (.tuple #[.string (ofL (rdD S V i)), .int .i64 (rdN S V i), .int .i64 (rdE S V i)]) ∧ Two w' E x p S (rdV S V i) y q T U ∧ Ch (fun k => ¬ E k) w w' := by
  obtain ⟨h1, h2, h3, h4, h5, F, G, hx, hy, d1, d2⟩ := h
  exact (dread_any F x p S V i w hx h3.ok h3.fit h3.coh hm).mono fun e w' z => ⟨z.1, Two.of h1 h2 (h3.read i) h4 h5 hy d1 d2 z.2⟩
theorem twrite (E : Nat → Prop) (x p y q : Nat) (S T : St) (V U : Dv) (i : Int) (d : ByteArray) (n : Int) (w : World) (h : Two w E x p S V y q T U) (hsz : d.size ≤ 281474976710656) :
    Calls Try.prog 32 #[.pointer (some ⟨x, 0, none⟩), .int .i64 i, .string d, .int .i64 n] w fun e w' => e = .returned (.int .i64 (wrE S V i d.data.toList n)) ∧ Two w' E x p (wrS S V i d.data.toList n) (wrV S V i d.data.toList n) y q T U ∧ Ch (fun k => ¬ E k) w w' := by
  obtain ⟨h1, h2, h3, h4, h5, F, G, hx, hy, d1, d2⟩ := h
  obtain ⟨g1, g2, _⟩ := h3.write h1 i d.data.toList n
  exact (dwrite_any F x p S V i d n w hx h3.ok h3.fit hsz).mono fun e w' z => ⟨z.1, Two.of g2 h2 g1 h4 h5 hy d1 d2 z.2⟩
theorem tbarrier (E : Nat → Prop) (x p y q : Nat) (S T : St) (V U : Dv) (w : World) (h : Two w E x p S V y q T U) :
    Calls Try.prog 33 #[.pointer (some ⟨x, 0, none⟩)] w fun e w' => e = .returned (.int .i64 (S.flush (V.first : Int) (V.cnt : Int)).2) ∧ Two w' E x p (S.flush (V.first : Int) (V.cnt : Int)).1 V y q T U ∧ Ch (fun k => ¬ E k) w w' := by
  obtain ⟨h1, h2, h3, h4, h5, F, G, hx, hy, d1, d2⟩ := h
  exact (barrier_any F x p S V w hx h3.fit).mono fun e w' z => ⟨z.1, Two.of (h1.flush _ _).1 h2 (h3.flush h1) h4 h5 hy d1 d2 z.2⟩
theorem tmisses (E : Nat → Prop) (x p y q : Nat) (S T : St) (V U : Dv) (w : World) (h : Two w E x p S V y q T U) :
    Calls Try.prog 26 #[.pointer (some ⟨x, 0, none⟩)] w fun e w' => e = .returned (.int .i64 (V.mis : Int)) ∧ w = w' := by
  obtain ⟨h1, h2, h3, h4, h5, F, G, ⟨Fd, Fv, _, hv, _⟩, _⟩ := h
  exact misses_any Fv x p V w hv
theorem timage (E : Nat → Prop) (x p y q : Nat) (S T : St) (V U : Dv) (w : World) (h : Two w E x p S V y q T U) :
    Calls Try.prog 28 #[.pointer (some ⟨p, 0, none⟩)] w fun e w' => e = .returned (.string (ofL S.image)) ∧ Below w.heap.size w w' := by
  obtain ⟨h1, h2, h3, h4, h5, F, G, ⟨Fd, Fv, hd, _⟩, _⟩ := h
  exact image_any Fd p S w hd

/-! ### the two are made -/
structure Dk2 (w : World) (E : Nat → Prop) (p : Nat) (S : St) (q : Nat) (T : St) : Prop where
  lt : ∀ k, E k → k < w.heap.size
  ex : ∃ F G : Nat → Prop, IsD w F p S ∧ IsD w G q T ∧ (∀ k, F k → ¬ G k ∧ ¬ E k ∧ k < w.heap.size) ∧ ∀ k, G k → ¬ E k ∧ k < w.heap.size
theorem dk2_of {w w' : World} {B p q : Nat} {S T : St} (hB : B ≤ w.heap.size) (h : At w B p S) (hb : Below w.heap.size w w') (k : At w' w.heap.size q T) : Dk2 w' (fun k => k < B) p S q T := by
  obtain ⟨F, hd, hF⟩ := h
  obtain ⟨G, hg, hG⟩ := k
  have hs := hb.size
  exact ⟨fun k hk => by omega, F, G, hd.below hb, hg, fun k hk => ⟨fun z => by have := (hG k z).1; have := (hF k hk).2; omega, fun z => by have := (hF k hk).1; omega, by have := (hF k hk).2; omega⟩, fun k hk => ⟨fun z => by have := (hG k hk).1; omega, (hG k hk).2⟩⟩
theorem isE_made {w : World} {F : Nat → Prop} {p : Nat} {S : St} (hd : IsD w F p S) (hF : ∀ k, F k → k < w.heap.size) (f c m : Int) : IsE (w.alloc (.cells (dvCells p (.slice none 0 0) (newV f c m)) 99)) (fun k => F k ∨ k = w.heap.size) w.heap.size p S (newV f c m) := by
  have hb : Below w.heap.size w (w.alloc (.cells (dvCells p (.slice none 0 0) (newV f c m)) 99)) := (Below.refl _ w).alloc (Nat.le_refl _) _
  have hs : (w.alloc (.cells (dvCells p (.slice none 0 0) (newV f c m)) 99)).heap.size = w.heap.size + 1 := by simp
  exact ⟨F, fun k => k = w.heap.size, hd.below hb, ⟨rfl, .slice none 0 0, block_new w _, World.ownsRow_nil _ _ _ _, (fun j hj => by cases hj), Nat.zero_le _⟩, fun k hk => ⟨.inl hk, fun e => by have := hF k hk; omega, by rw [hs]; have := hF k hk; omega⟩, fun k hk => ⟨.inr hk, by rw [hs]; omega⟩⟩
structure Half (w : World) (E : Nat → Prop) (x p : Nat) (S : St) (V : Dv) (q : Nat) (T : St) : Prop where
  lt : ∀ k, E k → k < w.heap.size
  ex : ∃ F G : Nat → Prop, IsE w F x p S V ∧ IsD w G q T ∧ (∀ k, F k → ¬ G k ∧ ¬ E k ∧ k < w.heap.size) ∧ ∀ k, G k → ¬ E k ∧ k < w.heap.size
theorem tnew1 (E : Nat → Prop) (p q : Nat) (S T : St) (f c m : Int) (w : World) (h : Dk2 w E p S q T) (hf : In64 f) (hc : In64 c) (hm : In64 m) (hn : nwE S f c m = 0) :
    Calls Try.prog 19 #[.pointer (some ⟨p, 0, none⟩), .int .i64 f, .int .i64 c, .int .i64 m] w fun e w' => e = .returned (.tuple #[.pointer (some ⟨w.heap.size, 0, none⟩), .int .i64 0]) ∧ Half w' E w.heap.size p S (newV f c m) q T ∧ Below w.heap.size w w' := by
  obtain ⟨lt, F, G, hd, hg, d1, d2⟩ := h
  refine (dnew_any F p S f c m w hd hf hc hm).mono fun e w' z => ?_
  rw [if_pos hn] at z
  obtain ⟨rfl, rfl⟩ := z
  have hb : Below w.heap.size w (w.alloc (.cells (dvCells p (.slice none 0 0) (newV f c m)) 99)) := (Below.refl _ w).alloc (Nat.le_refl _) _
  have hs := hb.size
  have hs1 : (w.alloc (.cells (dvCells p (.slice none 0 0) (newV f c m)) 99)).heap.size = w.heap.size + 1 := by simp
  refine ⟨rfl, ⟨fun k hk => by have := lt k hk; omega, _, G, isE_made hd (fun k hk => (d1 k hk).2.2) f c m, hg.below hb, fun k hk => ?_, fun k hk => ⟨(d2 k hk).1, by have := (d2 k hk).2; omega⟩⟩, hb⟩
  rcases hk with hk | hk
  · exact ⟨(d1 k hk).1, (d1 k hk).2.1, by have := (d1 k hk).2.2; omega⟩
  · exact ⟨fun z => by have := (d2 k z).2; omega, fun z => by have := lt k z; omega, by omega⟩
theorem tnew2 (E : Nat → Prop) (x p q : Nat) (S T : St) (V : Dv) (f c m : Int) (w : World) (h : Half w E x p S V q T) (so : S.ok) (gx : Good S V) (hf : In64 f) (hc : In64 c) (hm : In64 m) (hn : nwE T f c m = 0) :
    Calls Try.prog 19 #[.pointer (some ⟨q, 0, none⟩), .int .i64 f, .int .i64 c, .int .i64 m] w fun e w' => ∃ y, e = .returned (.tuple #[.pointer (some ⟨y, 0, none⟩), .int .i64 0]) ∧ Two w' E x p S V y q T (newV f c m) ∧ Below w.heap.size w w' := by
  obtain ⟨lt, F, G, hx, hg, d1, d2⟩ := h
  refine (dnew_any G q T f c m w hg hf hc hm).mono fun e w' z => ?_
  rw [if_pos hn] at z
  obtain ⟨rfl, rfl⟩ := z
  have hb : Below w.heap.size w (w.alloc (.cells (dvCells q (.slice none 0 0) (newV f c m)) 99)) := (Below.refl _ w).alloc (Nat.le_refl _) _
  have hs := hb.size
  have hs1 : (w.alloc (.cells (dvCells q (.slice none 0 0) (newV f c m)) 99)).heap.size = w.heap.size + 1 := by simp
  refine ⟨_, rfl, ⟨so, hg.ok, gx, newV_good hg.ok hn, fun k hk => by have := lt k hk; omega, F, _, hx.below hb, isE_made hg (fun k hk => (d2 k hk).2) f c m, fun k hk => ⟨?_, (d1 k hk).2.1, by have := (d1 k hk).2.2; omega⟩, fun k hk => ?_⟩, hb⟩
  · rintro (z | z)
    · exact (d1 k hk).1 z
    · have := (d1 k hk).2.2; omega
  · rcases hk with hk | hk
    · exact ⟨(d2 k hk).1, by have := (d2 k hk).2; omega⟩
    · exact ⟨fun z => by have := lt k z; omega, by omega⟩
theorem tnew_no (E : Nat → Prop) (p q : Nat) (S T : St) (f c m : Int) (w : World) (h : Dk2 w E p S q T) (hf : In64 f) (hc : In64 c) (hm : In64 m) (hn : nwE S f c m ≠ 0) :
    Calls Try.prog 19 #[.pointer (some ⟨p, 0, none⟩), .int .i64 f, .int .i64 c, .int .i64 m] w fun e w' => e = .returned (.tuple #[.pointer none, .int .i64 150]) ∧ w = w' := by
  obtain ⟨lt, F, G, hd, hg, d1, d2⟩ := h
  refine (dnew_any F p S f c m w hd hf hc hm).mono fun e w' z => ?_
  rw [if_neg hn] at z
  exact ⟨z.1, z.2.symm⟩
theorem tnew_some (E : Nat → Prop) (p q : Nat) (S T : St) (f c m : Int) (w : World) (h : Dk2 w E p S q T) (hf : In64 f) (hc : In64 c) (hm : In64 m) :
    Calls Try.prog 19 #[.pointer (some ⟨q, 0, none⟩), .int .i64 f, .int .i64 c, .int .i64 m] w fun e w' => (∃ v r, e = .returned (.tuple #[v, .int .i64 r])) ∧ Below w.heap.size w w' := by
  obtain ⟨lt, F, G, hd, hg, d1, d2⟩ := h
  refine (dnew_any G q T f c m w hg hf hc hm).mono fun e w' z => ?_
  by_cases hn : nwE T f c m = 0
  · rw [if_pos hn] at z
    exact ⟨⟨_, _, z.1⟩, by rw [z.2]; exact (Below.refl _ w).alloc (Nat.le_refl _) _⟩
  · rw [if_neg hn] at z
    exact ⟨⟨_, _, z.1⟩, by rw [z.2]; exact Below.refl _ w⟩

/-! ### the two say the same: nothing of memory -/
/-- over the same sectors, the same place: a cache's size is of no matter -/
structure Twin (V U : Dv) : Prop where
  first : U.first = V.first
  cnt : U.cnt = V.cnt
theorem Twin.refE {V U : Dv} (h : Twin V U) (S : St) (i : Int) : refE S U i = refE S V i := by unfold Ytnecbbflcpngcaa.refE; rw [h.cnt]
theorem Twin.sct {V U : Dv} (h : Twin V U) (S : St) (i : Int) : sct S U i = sct S V i := by unfold Ytnecbbflcpngcaa.sct; rw [h.first]
theorem Twin.rd {V U : Dv} (h : Twin V U) (S : St) (i : Int) : rdD S U i = rdD S V i ∧ rdN S U i = rdN S V i ∧ rdE S U i = rdE S V i := by
  unfold rdD rdN rdE
  rw [h.refE, h.sct]; exact ⟨rfl, rfl, rfl⟩
theorem Twin.wr {V U : Dv} (h : Twin V U) (S : St) (i : Int) (d : Bts) (n : Int) : wrE S U i d n = wrE S V i d n ∧ wrS S U i d n = wrS S V i d n := by
  unfold wrE wrS
  rw [h.refE, h.first]; exact ⟨rfl, rfl⟩
theorem rdE_at {S : St} {V : Dv} (hd : S.dead = false) (i : Int) : (rdE S V i = 151 ↔ refE S V i = 151) ∧ (refE S V i = 151 ∨ refE S V i = 0) := by
  have h1 : refE S V i = 151 ∨ refE S V i = 0 := by
    unfold refE; rw [hd, if_neg (by simp)]; split
    · exact .inl rfl
    · exact .inr rfl
  refine ⟨?_, h1⟩
  unfold rdE
  rcases h1 with h | h
  · rw [if_pos (by rw [h]; decide)]
  · rw [if_neg (by simpa using h), h]
    rcases parE_cases (sct S V i) with e | e | e <;> rw [e] <;> decide
theorem rdV_mis0 {S : St} {V : Dv} {i : Int} (h : refE S V i = 151) : rdV S V i = V := by unfold rdV; rw [if_pos (by rw [h]; decide)]
theorem rdV_mis1 {S : St} {V : Dv} {i : Int} (h : refE S V i = 0) : (rdV S V i).mis = misOf V i := by
  unfold rdV; rw [if_neg (by simpa using h)]
  split <;> rfl
theorem misOf_le (V : Dv) (i : Int) : misOf V i ≤ V.mis + 1 := by unfold misOf; split <;> omega
theorem misOf_none {V : Dv} (h : V.ok) (hm : V.most = 0) (i : Int) : misOf V i = V.mis + 1 := by
  have h1 := h.len
  have h2 : V.l = [] := by cases e : V.l with
    | nil => rfl
    | cons a b => rw [e] at h1; simp at h1; omega
  unfold misOf; rw [h2]; rfl
end Go.Proofs.Ytnecbbflcpngcaa
