/- Tables whose frames are apart, as lists and numbers; calls that came in. Conditions: no list is longer than a machine holds. -/
import Derived.Test.YtnhfbeehoifddaaRgt
namespace Go.Proofs.Ytnhfbeehoifddaa
open Go.ChangeShapes Go.WideShapes Go.ChangeAt Go.RowKit Go.Deep
set_option linter.unusedVariables false

/-- where the table's pages lie two rows of bytes are the same -/
def agree (ps : List Pg) (B B' : Bts) : Prop := B.length = B'.length ∧ ∀ a, ¬ out ps a → (pg ps a).1 ≠ -1 → B.getD (pos ps a) 0 = B'.getD (pos ps a) 0
theorem agree.refl (ps : List Pg) (B : Bts) : agree ps B B := ⟨rfl, fun _ _ _ => rfl⟩
theorem agree_rd {ps : List Pg} {B B' : Bts} {R : Int} (h : agree ps B B') : ∀ (n : Nat) (a : Int), thereE ps R a n = 0 → rd ps B a n = rd ps B' a n
  | 0, _, _ => rfl
  | n + 1, a, h0 => by
    unfold thereE at h0
    by_cases hb : bad ps R a = 0
    · rw [if_pos hb] at h0
      obtain ⟨h1, h2, _⟩ := bad_zero hb
      unfold rd
      rw [h.2 a h1 h2, agree_rd h n (a + 1) h0]
    · rw [if_neg hb] at h0; exact absurd h0 hb
theorem agree_read {F : Nat} {ps : List Pg} {B B' : Bts} (h : agree ps B B') (a n R : Int) : readS F ps B a n R = readS F ps B' a n R := by
  unfold readS
  split
  · rename_i q
    unfold readE at q
    split at q
    · split at q
      · exact agree_rd h _ _ q
      · cases q
    · contradiction
  · rfl
theorem getD_set (B : Bts) (p q : Nat) (x : UInt8) : (B.set p x).getD q 0 = if p = q ∧ p < B.length then x else B.getD q 0 := by
  rw [List.getD_eq_getElem?_getD, List.getD_eq_getElem?_getD, List.getElem?_set]
  by_cases e : p = q
  · subst e
    by_cases hl : p < B.length
    · rw [if_pos rfl, if_pos hl, if_pos ⟨rfl, hl⟩]; rfl
    · rw [if_pos rfl, if_neg hl, if_neg (fun z => hl z.2), List.getElem?_eq_none (by omega)]
  · rw [if_neg e, if_neg (fun z => e z.1)]
theorem agree_set {ps : List Pg} {B B' : Bts} (h : agree ps B B') (p : Nat) (x : UInt8) : agree ps (B.set p x) (B'.set p x) := by
  refine ⟨by rw [List.length_set, List.length_set]; exact h.1, fun a h1 h2 => ?_⟩
  rw [getD_set, getD_set, ← h.1]
  split
  · rfl
  · exact h.2 a h1 h2
theorem agree_wr {ps qs : List Pg} : ∀ (s : Bts) (a : Int) (B B' : Bts), agree ps B B' → agree ps (wr qs a s B) (wr qs a s B')
  | [], _, _, _, h => h
  | x :: s, a, B, B', h => agree_wr s (a + 1) _ _ (agree_set h _ x)
theorem agree_write {F : Nat} {ps : List Pg} {B B' : Bts} (h : agree ps B B') (qs : List Pg) (a : Int) (s : Bts) : agree ps (writeB F qs B a s) (writeB F qs B' a s) := by
  unfold writeB
  split
  · exact agree_wr s a B B' h
  · exact h
theorem agree_store {F : Nat} {ps : List Pg} {B B' : Bts} (h : agree ps B B') (qs : List Pg) (a n x : Int) : agree ps (storeB F qs B a n x) (storeB F qs B' a n x) := by
  unfold storeB
  split
  · exact agree_wr _ a B B' h
  · exact h
theorem agree_load {F : Nat} {ps : List Pg} {B B' : Bts} (h : agree ps B B') (a n R : Int) : loadN F ps B a n R = loadN F ps B' a n R := by
  unfold loadN
  rw [agree_read h]
/-- no frame is in both -/
def apart (ps qs : List Pg) : Prop := ∀ p ∈ ps, ∀ q ∈ qs, 0 ≤ p.1 → p.1 ≠ q.1
theorem keep_set {ps qs : List Pg} {B B0 : Bts} (h : agree qs B B0) (k : Nat) (hk : ∀ a, ¬ out qs a → (pg qs a).1 ≠ -1 → k ≠ pos qs a) (x : UInt8) : agree qs (B.set k x) B0 := by
  refine ⟨by rw [List.length_set]; exact h.1, fun a h1 h2 => ?_⟩
  rw [getD_set, if_neg (fun z => hk a h1 h2 z.1)]
  exact h.2 a h1 h2
theorem pos_apart {F : Nat} {ps qs : List Pg} (hp : chk F ps = 0) (hq : chk F qs = 0) (hap : apart ps qs) {a b : Int} (h1 : ¬ out ps a) (h2 : (pg ps a).1 ≠ -1) (h3 : ¬ out qs b) (h4 : (pg qs b).1 ≠ -1) : pos ps a ≠ pos qs b := by
  have m1 := pg_mem h1
  have m2 := pg_mem h3
  have r1 := chk_range hp m1
  have r2 := chk_range hq m2
  have := hap _ m1 _ m2 (by omega)
  unfold pos
  omega
theorem keep_wr {F : Nat} {ps qs : List Pg} (hp : chk F ps = 0) (hq : chk F qs = 0) (hap : apart ps qs) {B0 : Bts} : ∀ (s : Bts) (a : Int) (B : Bts), thereE ps 2 a s.length = 0 → agree qs B B0 → agree qs (wr ps a s B) B0
  | [], _, _, _, h => h
  | x :: s, a, B, h0, h => by
    rw [List.length_cons] at h0
    unfold thereE at h0
    by_cases hb : bad ps 2 a = 0
    · rw [if_pos hb] at h0
      obtain ⟨h1, h2, _⟩ := bad_zero hb
      unfold wr
      exact keep_wr hp hq hap s (a + 1) _ h0 (keep_set (ps := ps) h _ (fun b h3 h4 => pos_apart hp hq hap h1 h2 h3 h4) x)
    · rw [if_neg hb] at h0; exact absurd h0 hb
theorem keep_write {F : Nat} {ps qs : List Pg} (hp : chk F ps = 0) (hq : chk F qs = 0) (hap : apart ps qs) {B B0 : Bts} (h : agree qs B B0) (a : Int) (s : Bts) : agree qs (writeB F ps B a s) B0 := by
  unfold writeB
  split
  · rename_i q
    unfold writeE at q
    rw [if_pos hp] at q
    split at q
    · exact keep_wr hp hq hap s a B q h
    · cases q
  · exact h
theorem keep_store {F : Nat} {ps qs : List Pg} (hp : chk F ps = 0) (hq : chk F qs = 0) (hap : apart ps qs) {B B0 : Bts} (h : agree qs B B0) (a n x : Int) : agree qs (storeB F ps B a n x) B0 := by
  unfold storeB
  split
  · rename_i q
    unfold storeE at q
    split at q
    · unfold writeE at q
      rw [if_pos hp] at q
      split at q
      · exact keep_wr hp hq hap _ a B (by rw [wbytes_len]; exact q) h
      · cases q
    · contradiction
  · exact h
theorem keep_lay {F : Nat} {ps : List Pg} (hp : chk F ps = 0) {B B0 : Bts} (hB : B.length = 256 * F) (h : agree ps B0 B) (f : Int) (hf : 0 ≤ f ∧ ∀ p ∈ ps, 0 ≤ p.1 → p.1 ≠ f) (s : Bts) : agree ps B0 (layB F B f 0 s) := by
  unfold layB
  split
  · rename_i q
    unfold layE at q
    split at q
    · rename_i hi
      unfold isF at hi
      split at q
      · cases q
      · rename_i hn
        have hl : 256 * f.toNat + (0 : Int).toNat + s.length ≤ B.length := by rw [hB]; omega
        refine ⟨by rw [lay_len hl]; exact h.1, fun a h1 h2 => ?_⟩
        rw [h.2 a h1 h2, List.getD_eq_getElem?_getD, List.getD_eq_getElem?_getD, lay_get hl, if_neg]
        have m1 := pg_mem h1
        have r1 := chk_range hp m1
        have := hf.2 _ m1 (by omega)
        unfold pos
        omega
    · cases q
  · exact h
/-! ### what came in -/
theorem Try.cellsOf35 : Try.prog.cellsOf 35 = 6 := by kernel_rfl
theorem Try.bytesOf35 : Try.prog.bytesOf 35 = 56 := by kernel_rfl
theorem Try.cellsOf50 : Try.prog.cellsOf 50 = 5 := by kernel_rfl
theorem Try.cellsOf32 : Try.prog.cellsOf 32 = 1 := by kernel_rfl
theorem Try.cellsOf23 : Try.prog.cellsOf 23 = 1 := by kernel_rfl
/-- a call that came in -/
structure Opr where
  on : Int
  kind : Int
  a : Int
  b : Int
  c : Int
  s : ByteArray
def Opr.cells (o : Opr) : Array Value := #[.int .i64 o.on, .int .i64 o.kind, .int .i64 o.a, .int .i64 o.b, .int .i64 o.c, .string o.s]
structure Opr.ok (o : Opr) : Prop where
  on : In64 o.on
  kind : In64 o.kind
  a : In64 o.a
  b : In64 o.b
  c : In64 o.c
  s : o.s.size ≤ 140737488351232
def Script (W : World) (v : Value) (l : List Opr) : Prop :=
  ∃ q cap, v = .slice q l.length cap ∧ l.length ≤ cap ∧ l.length ≤ 17592186044416 ∧ ∀ i (hi : i < l.length), l[i].ok ∧ ∃ b o, q = some ⟨b, o, none⟩ ∧ b < W.heap.size ∧ ∀ j u, (l[i].cells)[j]? = some u → W.cell? ⟨b, o + i * 6 + j, none⟩ = some u
theorem Script.below {W W' : World} {v : Value} {l : List Opr} (h : Script W v l) (hb : Below W.heap.size W W') : Script W' v l := by
  obtain ⟨q, cap, h1, h2, h3, h4⟩ := h
  refine ⟨q, cap, h1, h2, h3, fun i hi => ?_⟩
  obtain ⟨g1, b, o, g2, g3, g4⟩ := h4 i hi
  exact ⟨g1, b, o, g2, Nat.lt_of_lt_of_le g3 hb.size, fun j u hu => cell_below (g4 j u hu) hb⟩
set_option maxRecDepth 100000 in
theorem trod_op {H : Type} {enc : TypeId × Value → H} {W : World} {base : Nat} {held : Bool} {fuel : Nat} {cs : List Value} {x : DataW H × List MemPlace}
    (h : DataW.trod enc Try.prog W base (fun _ => true) held fuel 35 cs = some x) (hwt : ∀ u ∈ x.1.weights Try.prog 35, u ≤ reachBytes) : ∃ o : Opr, cs = o.cells.toList ∧ o.ok := by
  obtain ⟨xs, n, hn, rfl, hl, hlen, hf⟩ := DataW.trod_struct Try.underlying35 h
  rw [Try.cellsOf35] at hl
  match cs, hl with
  | [c0, c1, c2, c3, c4, c5], _ =>
    match xs, hlen with
    | [y0, y1, y2, y3, y4, y5], _ =>
      have h0 : DataW.trod enc Try.prog W base (fun _ => true) held n 3 (([c0, c1, c2, c3, c4, c5].drop 0).take (Try.prog.cellsOf 3)) = [y0, y1, y2, y3, y4, y5][0]? := hf 0 _ rfl
      have h1 : DataW.trod enc Try.prog W base (fun _ => true) held n 3 (([c0, c1, c2, c3, c4, c5].drop 1).take (Try.prog.cellsOf 3)) = [y0, y1, y2, y3, y4, y5][1]? := hf 1 _ rfl
      have h2 : DataW.trod enc Try.prog W base (fun _ => true) held n 3 (([c0, c1, c2, c3, c4, c5].drop 2).take (Try.prog.cellsOf 3)) = [y0, y1, y2, y3, y4, y5][2]? := hf 2 _ rfl
      have h3 : DataW.trod enc Try.prog W base (fun _ => true) held n 3 (([c0, c1, c2, c3, c4, c5].drop 3).take (Try.prog.cellsOf 3)) = [y0, y1, y2, y3, y4, y5][3]? := hf 3 _ rfl
      have h4 : DataW.trod enc Try.prog W base (fun _ => true) held n 3 (([c0, c1, c2, c3, c4, c5].drop 4).take (Try.prog.cellsOf 3)) = [y0, y1, y2, y3, y4, y5][4]? := hf 4 _ rfl
      have h5 : DataW.trod enc Try.prog W base (fun _ => true) held n 9 (([c0, c1, c2, c3, c4, c5].drop 5).take (Try.prog.cellsOf 9)) = [y0, y1, y2, y3, y4, y5][5]? := hf 5 _ rfl
      rw [Try.cellsOf3] at h0 h1 h2 h3 h4
      rw [Try.cellsOf9] at h5
      simp at h0 h1 h2 h3 h4 h5
      obtain ⟨on, e0, _, w0⟩ := DataW.trod_int Try.underlying3 h0
      cases e0
      obtain ⟨kind, e1, _, w1⟩ := DataW.trod_int Try.underlying3 h1
      cases e1
      obtain ⟨a, e2, _, w2⟩ := DataW.trod_int Try.underlying3 h2
      cases e2
      obtain ⟨b, e3, _, w3⟩ := DataW.trod_int Try.underlying3 h3
      cases e3
      obtain ⟨c, e4, _, w4⟩ := DataW.trod_int Try.underlying3 h4
      cases e4
      have hw5 : ∀ u ∈ y5.1.weights Try.prog 9, u ≤ reachBytes := fun u hu => hwt u (by
        rw [DataW.weights, Try.underlying35]
        exact DataW.weights_mem_each (j := 5) rfl rfl u hu)
      obtain ⟨s, e5, e5', _⟩ := DataW.trod_string Try.underlying9 h5
      cases e5
      have hs : s.size ≤ 140737488351232 := by
        rw [e5'] at hw5
        have := hw5 s.size (by simp [DataW.weights])
        simpa [reachBytes] using this
      exact ⟨⟨on, kind, a, b, c, s⟩, rfl, wf_i64 w0, wf_i64 w1, wf_i64 w2, wf_i64 w3, wf_i64 w4, hs⟩
set_option maxRecDepth 100000 in
theorem script_of {H : Type} {enc : TypeId × Value → H} {W : World} {base : Nat} {v : Value} {d : DataW H} {p : List MemPlace} {held : Bool}
    (h : DataW.Trod enc Try.prog W base (fun _ => true) held 23 v d p) (hv : ∃ ao len cap, v = .slice ao len cap) (hwt : ∀ u ∈ d.weights Try.prog 23, u ≤ reachBytes) : ∃ l, Script W v l := by
  obtain ⟨ao, len, cap, rfl⟩ := hv
  obtain ⟨fuel, hf⟩ := h
  rcases DataW.trod_slice Try.underlying23 hf with ⟨hcs, _⟩ | ⟨a, len', cap', elems, rest, m, hm, hcs, hx, hb, hlc, hcm, hel, hev, _, _⟩
  · simp [Value.cells] at hcs
    obtain ⟨rfl, rfl, rfl⟩ := hcs
    exact ⟨[], none, 0, rfl, Nat.le_refl _, Nat.zero_le _, fun i hi => absurd hi (Nat.not_lt_zero _)⟩
  · simp [Value.cells] at hcs
    obtain ⟨rfl, rfl, rfl⟩ := hcs
    have hx' : d = _ := congrArg Prod.fst hx
    rw [hx', DataW.weights, Try.underlying23] at hwt
    have hfew : (elems.length + rest.length) * Try.prog.bytesOf 35 ≤ reachBytes := by
      have := hwt _ (List.mem_cons_self ..)
      simpa using this
    rw [Try.bytesOf35] at hfew
    have hR := reachBytes_lt
    have each : ∀ i, i < len → ∃ o : Opr, (∀ j u, (o.cells)[j]? = some u → W.cell? (a.add (i * 6 + j)) = some u) ∧ a.block < W.heap.size ∧ o.ok := by
      intro i hi
      have he := hev i hi
      rw [Try.cellsOf35] at he
      obtain ⟨cs', hc', ht'⟩ := Option.bind_eq_some_iff.1 (he.trans (List.getElem?_eq_getElem (by omega)))
      obtain ⟨o, hcs', hok⟩ := trod_op ht' (fun u hu => hwt u (by
        refine List.mem_cons_of_mem _ (List.mem_append_left _ (mem_all (d := (elems[i]'(by omega)).1) ?_ u hu))
        exact List.mem_map.2 ⟨_, List.getElem_mem (by omega), rfl⟩))
      obtain ⟨_, hlen', hcell⟩ := World.cells?_some hc'
      refine ⟨o, fun j u hu => ?_, ?_, hok⟩
      · have hj : j < 6 := (Array.getElem?_eq_some_iff.1 hu).1
        have := hcell j hj
        rw [add_add'] at this
        rw [this, hcs']
        simpa using hu
      · have := hcell 0 (by omega)
        obtain ⟨c, hc0⟩ : ∃ c, cs'[0]? = some c := ⟨cs'[0]'(by omega), List.getElem?_eq_getElem (by omega)⟩
        rw [hc0] at this
        have := World.block_lt_of_cell? W _ this
        rwa [add_block, add_block] at this
    haveI : Inhabited Opr := ⟨⟨0, 0, 0, 0, 0, ByteArray.empty⟩⟩
    obtain ⟨q, hq⟩ := choose_lt each
    have e1 : ((List.range len).map q).length = len := by simp
    refine ⟨(List.range len).map q, some a, cap, by rw [e1], by rw [e1]; exact hlc, by rw [e1]; omega, fun i hi => ?_⟩
    have hi' : i < len := by rw [e1] at hi; exact hi
    have e2 : ((List.range len).map q)[i] = q i := by simp
    rw [e2]
    obtain ⟨g1, g2, g3⟩ := hq i hi'
    obtain ⟨b, o, spot⟩ := a
    have hz := (hq 0 (by omega)).1 0 _ rfl
    have hspot : spot = none := by simpa [Addr.add] using World.cell?_spot hz
    subst hspot
    refine ⟨g3, b, o, rfl, g2, fun j u hu => ?_⟩
    have := g1 j u hu
    rw [addr_at, ← Nat.add_assoc] at this
    exact this
theorem slice_trod {H : Type} {enc : TypeId × Value → H} {W : World} {base n : Nat} {held : Bool} {t e : TypeId} {c : Value} {x : DataW H × List MemPlace} (ht : Try.prog.underlying t = some (.slice e))
    (h : DataW.trod enc Try.prog W base (fun _ => true) held n t [c] = some x) : ∃ ao len cap, c = .slice ao len cap := by
  rcases DataW.trod_slice ht h with ⟨hcs, _⟩ | ⟨a, len', cap', elems, rest, m, hm, hcs, _⟩
  · simp at hcs; exact ⟨_, _, _, hcs⟩
  · simp at hcs; exact ⟨_, _, _, hcs⟩
theorem trod_up {H : Type} {enc : TypeId × Value → H} {W : World} {base n : Nat} {held : Bool} {t e : TypeId} {c : Value} {x : DataW H × List MemPlace} (ht : Try.prog.underlying t = some (.slice e))
    (h : DataW.trod enc Try.prog W base (fun _ => true) held n t [c] = some x) : DataW.Trod enc Try.prog W base (fun _ => true) held t c x.1 x.2 := by
  obtain ⟨ao, len, cap, rfl⟩ := slice_trod ht h
  exact ⟨n, by simpa [Value.cells] using h⟩
set_option maxRecDepth 100000 in
theorem case_of {H : Type} {enc : TypeId × Value → H} {W : World} {base b0 : Nat} {v : Value} {d : DataW H} {p : List MemPlace} (hv : Value.okWide Try.prog W .any b0 50 v)
    (h : DataW.Trod enc Try.prog W base (fun _ => true) true 50 v d p) (hwt : ∀ u ∈ d.weights Try.prog 50, u ≤ reachBytes) :
    ∃ (m : Int) (v1 v2 v3 : Value) (ps qs : List Pg) (l : List Opr) (s : ByteArray), v = .agg #[.int .i64 m, v1, v2, v3, .string s] ∧ In64 m ∧ PgOk W v1 ps ∧ PgOk W v2 qs ∧ Script W v3 l ∧ s.size ≤ 140737488351232 := by
  simp only [Value.okWide, Try.underlying50] at hv
  obtain ⟨cs, rfl, hs, _⟩ := hv
  obtain ⟨fuel, hf⟩ := h
  obtain ⟨xs, n, hn, hx, hl, hlen, hf⟩ := DataW.trod_struct Try.underlying50 hf
  rw [Try.cellsOf50] at hl
  have hcs : (Value.agg cs).cells.toList = cs.toList := rfl
  rw [hcs] at hl hf
  match hc : cs.toList, hl with
  | [c0, c1, c2, c3, c4], _ =>
    rw [hc] at hf
    match xs, hlen with
    | [y0, y1, y2, y3, y4], _ =>
      have h0 : DataW.trod enc Try.prog W base (fun _ => true) true n 3 (([c0, c1, c2, c3, c4].drop 0).take (Try.prog.cellsOf 3)) = [y0, y1, y2, y3, y4][0]? := hf 0 _ rfl
      have h1 : DataW.trod enc Try.prog W base (fun _ => true) true n 32 (([c0, c1, c2, c3, c4].drop 1).take (Try.prog.cellsOf 32)) = [y0, y1, y2, y3, y4][1]? := hf 1 _ rfl
      have h2 : DataW.trod enc Try.prog W base (fun _ => true) true n 32 (([c0, c1, c2, c3, c4].drop 2).take (Try.prog.cellsOf 32)) = [y0, y1, y2, y3, y4][2]? := hf 2 _ rfl
      have h3 : DataW.trod enc Try.prog W base (fun _ => true) true n 23 (([c0, c1, c2, c3, c4].drop 3).take (Try.prog.cellsOf 23)) = [y0, y1, y2, y3, y4][3]? := hf 3 _ rfl
      have h4 : DataW.trod enc Try.prog W base (fun _ => true) true n 9 (([c0, c1, c2, c3, c4].drop 4).take (Try.prog.cellsOf 9)) = [y0, y1, y2, y3, y4][4]? := hf 4 _ rfl
      rw [Try.cellsOf3] at h0
      rw [Try.cellsOf32] at h1 h2
      rw [Try.cellsOf23] at h3
      rw [Try.cellsOf9] at h4
      simp at h0 h1 h2 h3 h4
      obtain ⟨m, e0, _, w0⟩ := DataW.trod_int Try.underlying3 h0
      cases e0
      have hd : d = _ := congrArg Prod.fst hx
      have hw1 : ∀ u ∈ y1.1.weights Try.prog 32, u ≤ reachBytes := fun u hu => hwt u (by
        rw [hd, DataW.weights, Try.underlying50]
        exact DataW.weights_mem_each (j := 1) rfl rfl u hu)
      have hw2 : ∀ u ∈ y2.1.weights Try.prog 32, u ≤ reachBytes := fun u hu => hwt u (by
        rw [hd, DataW.weights, Try.underlying50]
        exact DataW.weights_mem_each (j := 2) rfl rfl u hu)
      have hw3 : ∀ u ∈ y3.1.weights Try.prog 23, u ≤ reachBytes := fun u hu => hwt u (by
        rw [hd, DataW.weights, Try.underlying50]
        exact DataW.weights_mem_each (j := 3) rfl rfl u hu)
      have hw4 : ∀ u ∈ y4.1.weights Try.prog 9, u ≤ reachBytes := fun u hu => hwt u (by
        rw [hd, DataW.weights, Try.underlying50]
        exact DataW.weights_mem_each (j := 4) rfl rfl u hu)
      obtain ⟨s, e4, e4', _⟩ := DataW.trod_string Try.underlying9 h4
      cases e4
      have hs : s.size ≤ 140737488351232 := by
        rw [e4'] at hw4
        have := hw4 s.size (by simp [DataW.weights])
        simpa [reachBytes] using this
      obtain ⟨ps, k1⟩ := pages_of (trod_up Try.underlying32 h1) (slice_trod Try.underlying32 h1) hw1
      obtain ⟨qs, k2⟩ := pages_of (trod_up Try.underlying32 h2) (slice_trod Try.underlying32 h2) hw2
      obtain ⟨l, k3⟩ := script_of (trod_up Try.underlying23 h3) (slice_trod Try.underlying23 h3) hw3
      refine ⟨m, c1, c2, c3, ps, qs, l, s, ?_, wf_i64 w0, k1, k2, k3, hs⟩
      rw [← Array.toArray_toList (xs := cs), hc]
end Go.Proofs.Ytnhfbeehoifddaa
