/- What a world holds of a disk, and the small calls on it. No conditions. -/
import Derived.Test.YtnecbbflcpngcaaMap
namespace Go.Proofs.Ytnecbbflcpngcaa
open Go.RowKit Go.Maps
set_option maxRecDepth 20000
set_option linter.unusedVariables false

def dcells (sb n cap mb : Nat) (dead : Bool) (armed : Nat) (cv : Value) : Array Value := #[.slice (some ⟨sb, 0, none⟩) n cap, .map (some mb), .bool dead, .int .i64 (armed : Int), cv]
/-- cv is a slice of the numbers ch, whose block is of G -/
def CV (w : World) (G : Nat → Prop) (cv : Value) (ch : List Int) : Prop :=
  ∃ q cap, cv = .slice q ch.length cap ∧ ch.length ≤ cap ∧ (ch ≠ [] → ∃ b o, q = some ⟨b, o, none⟩ ∧ G b ∧ b < w.heap.size ∧ ∀ j, j < ch.length → w.cell? ⟨b, o + j, none⟩ = some (.int .i64 (ch.getD j 0)))
theorem CV.of_heap {w w' : World} {G : Nat → Prop} {cv : Value} {ch : List Int} (h : CV w G cv ch) (hs : w.heap.size ≤ w'.heap.size) (e : ∀ k, k < w.heap.size → G k → w'.heap[k]? = w.heap[k]?) : CV w' G cv ch := by
  obtain ⟨q, cap, h1, h2, h3⟩ := h
  refine ⟨q, cap, h1, h2, fun hne => ?_⟩
  obtain ⟨b, o, hq, hG, hlt, hc⟩ := h3 hne
  exact ⟨b, o, hq, hG, by omega, fun j hj => by rw [← hc j hj]; simp only [World.cell?, e b hlt hG]⟩
theorem CV.mono {w : World} {G G' : Nat → Prop} {cv : Value} {ch : List Int} (h : CV w G cv ch) (e : ∀ k, G k → G' k) : CV w G' cv ch := by
  obtain ⟨q, cap, h1, h2, h3⟩ := h
  refine ⟨q, cap, h1, h2, fun hne => ?_⟩
  obtain ⟨b, o, hq, hG, r⟩ := h3 hne
  exact ⟨b, o, hq, e b hG, r⟩
theorem CV.nil (w : World) (G : Nat → Prop) : CV w G (.slice none 0 0) [] := ⟨none, 0, rfl, Nat.le_refl _, fun h => absurd rfl h⟩
structure D (w : World) (p sb cap mb : Nat) (cv : Value) (S : St) : Prop where
  blk : w.heap[p]? = some (.cells (dcells sb S.safe.length cap mb S.dead S.armed cv) 91 (0, 0))
  row : RowB w sb cap S.safe
  map : MapA w mb S.count S.wr
  ok : S.ok
  ne : p ≠ sb
theorem D.nm {w : World} {p sb cap mb : Nat} {cv : Value} {S : St} (h : D w p sb cap mb cv S) : p ≠ mb ∧ sb ≠ mb := by
  obtain ⟨es, ck, hm⟩ := h.map.is_map
  obtain ⟨cur, fr, hr, _⟩ := h.row
  have hb := h.blk
  constructor
  · intro e; subst e; rw [hm] at hb; cases hb
  · intro e; subst e; rw [hm] at hr; cases hr
theorem D.cells {w : World} {p sb cap mb : Nat} {cv : Value} {S : St} (h : D w p sb cap mb cv S) :
    w.cell? ⟨p, 0, none⟩ = some (.slice (some ⟨sb, 0, none⟩) S.safe.length cap) ∧ w.cell? ⟨p, 1, none⟩ = some (.map (some mb)) ∧ w.cell? ⟨p, 2, none⟩ = some (.bool S.dead) ∧
    w.cell? ⟨p, 3, none⟩ = some (.int .i64 (S.armed : Int)) ∧ w.cell? ⟨p, 4, none⟩ = some cv ∧ ∀ o, w.frozen? ⟨p, o, none⟩ = false := by
  have hb := h.blk
  refine ⟨?_, ?_, ?_, ?_, ?_, fun o => block_free hb⟩ <;> (rw [cell_of_row w p _ _ _ _ hb]; rfl)
/-- in the blocks F a disk S lies at p -/
def IsD (w : World) (F : Nat → Prop) (p : Nat) (S : St) : Prop :=
  ∃ sb cap mb cv, D w p sb cap mb cv S ∧ CV w (fun b => F b ∧ b ≠ p ∧ b ≠ sb ∧ b ≠ mb) cv S.ch ∧ F p ∧ F sb ∧ F mb
theorem IsD.ok {w : World} {F : Nat → Prop} {p : Nat} {S : St} (h : IsD w F p S) : S.ok := by obtain ⟨_, _, _, _, h, _⟩ := h; exact h.ok
theorem IsD.lt {w : World} {F : Nat → Prop} {p : Nat} {S : St} (h : IsD w F p S) : p < w.heap.size ∧ F p := by obtain ⟨_, _, _, _, h, _, hp, _⟩ := h; exact ⟨block_lt h.blk, hp⟩
theorem IsD.of_heap {w w' : World} {F : Nat → Prop} {p : Nat} {S : St} (h : IsD w F p S) (hs : w.heap.size ≤ w'.heap.size) (e : ∀ k, k < w.heap.size → F k → w'.heap[k]? = w.heap[k]?) : IsD w' F p S := by
  obtain ⟨sb, cap, mb, cv, hd, hc, h1, h2, h3⟩ := h
  exact ⟨sb, cap, mb, cv, ⟨(e p (block_lt hd.blk) h1).trans hd.blk, hd.row.of_heap (e sb hd.row.lt h2), hd.map.of_heap (e mb hd.map.lt h3), hd.ok, hd.ne⟩, hc.of_heap hs (fun k hk hG => e k hk hG.1), h1, h2, h3⟩
theorem IsD.below {w w' : World} {F : Nat → Prop} {p : Nat} {S : St} (h : IsD w F p S) (hb : Below w.heap.size w w') : IsD w' F p S := h.of_heap hb.size fun k hk _ => hb.block k hk
theorem IsD.mono {w : World} {F F' : Nat → Prop} {p : Nat} {S : St} (h : IsD w F p S) (e : ∀ k, F k → F' k) : IsD w F' p S := by
  obtain ⟨sb, cap, mb, cv, hd, hc, h1, h2, h3⟩ := h
  exact ⟨sb, cap, mb, cv, hd, hc.mono (fun k hk => ⟨e k hk.1, hk.2⟩), e p h1, e sb h2, e mb h3⟩

theorem St.count_lt {S : St} (h : S.ok) : S.safe.length ≤ 524288 := by have := h.len; have := h.hi; omega
set_option maxHeartbeats 400000 in
theorem count_any (F : Nat → Prop) (p : Nat) (S : St) (w : World) (h : IsD w F p S) :
    Calls Try.prog 38 #[.pointer (some ⟨p, 0, none⟩)] w fun e w' => e = .returned (.int .i64 (S.count : Int)) ∧ w = w' := by
  obtain ⟨sb, cap, mb, cv, hd, hc, h1, h2, h3⟩ := h
  obtain ⟨c0, _⟩ := hd.cells
  have hl := hd.ok.len
  have e : (S.safe.length : Int).tdiv 128 = (S.count : Int) := by rw [Int.tdiv_eq_ediv_of_nonneg (by omega)]; omega
  have ew : wrap64 (S.count : Int) = (S.count : Int) := by have := hd.ok.hi; unfold wrap64; omega
  clear hl
  clear hd hc
  go_enter Try.func38, Try.ntmps38
  go_wp2
  go_ret
  exact ⟨by simp [ew], rfl⟩
set_option maxHeartbeats 400000 in
theorem dead_any (F : Nat → Prop) (p : Nat) (S : St) (w : World) (h : IsD w F p S) :
    Calls Try.prog 92 #[.pointer (some ⟨p, 0, none⟩)] w fun e w' => e = .returned (.bool S.dead) ∧ w = w' := by
  obtain ⟨sb, cap, mb, cv, hd, hc, h1, h2, h3⟩ := h
  obtain ⟨_, _, c2, _⟩ := hd.cells
  clear hd hc
  go_enter Try.func92, Try.ntmps92
  go_wp2
  go_ret
  exact ⟨rfl, rfl⟩
theorem set3 (sb n cap mb : Nat) (dead : Bool) (armed : Nat) (cv : Value) (a : Nat) : (dcells sb n cap mb dead armed cv).setIfInBounds 3 (.int .i64 (a : Int)) = dcells sb n cap mb dead a cv := rfl
theorem set4 (sb n cap mb : Nat) (dead : Bool) (armed : Nat) (cv v : Value) : (dcells sb n cap mb dead armed cv).setIfInBounds 4 v = dcells sb n cap mb dead armed v := rfl
theorem set2 (sb n cap mb : Nat) (dead : Bool) (armed : Nat) (cv : Value) (v : Bool) : (dcells sb n cap mb dead armed cv).setIfInBounds 2 (.bool v) = dcells sb n cap mb v armed cv := rfl
theorem set0 (sb n cap mb : Nat) (dead : Bool) (armed : Nat) (cv : Value) (sb' n' cap' : Nat) : (dcells sb n cap mb dead armed cv).setIfInBounds 0 (.slice (some ⟨sb', 0, none⟩) n' cap') = dcells sb' n' cap' mb dead armed cv := rfl
theorem MapA.setCell {w : World} {b c : Nat} {M : Nat → Option Bts} (h : MapA w b c M) {a : Addr} (ha : b ≠ a.block) (u : Value) : MapA (w.setCell a u) b c M := h.of_heap (block_setCell_other ha)
theorem RowB.setCell {w : World} {g cap : Nat} {l : Bts} (h : RowB w g cap l) {a : Addr} (ha : g ≠ a.block) (u : Value) : RowB (w.setCell a u) g cap l := h.of_heap (block_setCell_other ha)
theorem setCell_size (w : World) (a : Addr) (v : Value) : (w.setCell a v).heap.size = w.heap.size := by simp [World.setCell]
theorem D.set2 {w : World} {p sb cap mb : Nat} {cv : Value} {S : St} (h : D w p sb cap mb cv S) (v : Bool) : D (w.setCell ⟨p, 2, none⟩ (.bool v)) p sb cap mb cv { S with dead := v } :=
  ⟨block_setCell (o := 2) (u := .bool v) h.blk, h.row.setCell (fun e => h.ne e.symm) _, h.map.setCell (fun e => h.nm.1 e.symm) _, ⟨h.ok.len, h.ok.lo, h.ok.hi, h.ok.wr, h.ok.armed, h.ok.ch, h.ok.chl⟩, h.ne⟩
theorem D.set3 {w : World} {p sb cap mb : Nat} {cv : Value} {S : St} (h : D w p sb cap mb cv S) (a : Nat) (ha : a < 9223372036854775808) : D (w.setCell ⟨p, 3, none⟩ (.int .i64 (a : Int))) p sb cap mb cv { S with armed := a } :=
  ⟨block_setCell (o := 3) (u := .int .i64 (a : Int)) h.blk, h.row.setCell (fun e => h.ne e.symm) _, h.map.setCell (fun e => h.nm.1 e.symm) _, ⟨h.ok.len, h.ok.lo, h.ok.hi, h.ok.wr, ha, h.ok.ch, h.ok.chl⟩, h.ne⟩
theorem D.set4 {w : World} {p sb cap mb : Nat} {cv : Value} {S : St} (h : D w p sb cap mb cv S) (v : Value) (l : List Int) (hl : ∀ x ∈ l, -9223372036854775808 ≤ x ∧ x < 9223372036854775808) (hl2 : l.length ≤ 4096) : D (w.setCell ⟨p, 4, none⟩ v) p sb cap mb v { S with ch := l } :=
  ⟨block_setCell (o := 4) (u := v) h.blk, h.row.setCell (fun e => h.ne e.symm) _, h.map.setCell (fun e => h.nm.1 e.symm) _, ⟨h.ok.len, h.ok.lo, h.ok.hi, h.ok.wr, h.ok.armed, hl, hl2⟩, h.ne⟩
theorem D.set0 {w : World} {p sb cap mb : Nat} {cv : Value} {S : St} (h : D w p sb cap mb cv S) {sb' cap' : Nat} {l : Bts} (hr : RowB w sb' cap' l) (hl : l.length = S.safe.length) (hn : p ≠ sb') :
    D (w.setCell ⟨p, 0, none⟩ (.slice (some ⟨sb', 0, none⟩) l.length cap')) p sb' cap' mb cv { S with safe := l } := by
  have hc : ({ S with safe := l } : St).count = S.count := St.count_of hl
  refine ⟨block_setCell (o := 0) (u := .slice (some ⟨sb', 0, none⟩) l.length cap') h.blk, hr.setCell (fun e => hn e.symm) _, ?_, ⟨?_, ?_, ?_, ?_, h.ok.armed, h.ok.ch, h.ok.chl⟩, hn⟩
  · rw [hc]; exact h.map.setCell (fun e => h.nm.1 e.symm) _
  · rw [hc]; exact hl.trans h.ok.len
  · rw [hc]; exact h.ok.lo
  · rw [hc]; exact h.ok.hi
  · rw [hc]; exact h.ok.wr
theorem D.of_heap {w w' : World} {p sb cap mb : Nat} {cv : Value} {S : St} (h : D w p sb cap mb cv S) (e1 : w'.heap[p]? = w.heap[p]?) (e2 : w'.heap[sb]? = w.heap[sb]?) (e3 : w'.heap[mb]? = w.heap[mb]?) : D w' p sb cap mb cv S :=
  ⟨e1.trans h.blk, h.row.of_heap e2, h.map.of_heap e3, h.ok, h.ne⟩
theorem D.below {w w' : World} {p sb cap mb : Nat} {cv : Value} {S : St} (h : D w p sb cap mb cv S) (hb : Below w.heap.size w w') : D w' p sb cap mb cv S :=
  h.of_heap (hb.block p (block_lt h.blk)) (hb.block sb h.row.lt) (hb.block mb h.map.lt)
theorem CV.setCell {w : World} {G : Nat → Prop} {cv : Value} {ch : List Int} (h : CV w G cv ch) {a : Addr} (ha : ∀ k, G k → k ≠ a.block) (u : Value) : CV (w.setCell a u) G cv ch :=
  h.of_heap (by rw [setCell_size]; exact Nat.le_refl _) fun k _ hk => block_setCell_other (ha k hk)
theorem CV.below {w w' : World} {G : Nat → Prop} {cv : Value} {ch : List Int} (h : CV w G cv ch) (hb : Below w.heap.size w w') : CV w' G cv ch := h.of_heap hb.size fun k hk _ => hb.block k hk
set_option maxHeartbeats 400000 in
theorem disarm_own (F : Nat → Prop) (p : Nat) (S : St) (w : World) (h : IsD w F p S) :
    Calls Try.prog 71 #[.pointer (some ⟨p, 0, none⟩)] w fun e w' => e = .returned (.tuple #[]) ∧ IsD w' F p { S with armed := 0, ch := [] } ∧ Ch F w w' ∧ w'.heap.size = w.heap.size ∧ ∀ k, k ≠ p → w'.heap[k]? = w.heap[k]? := by
  obtain ⟨sb, cap, mb, cv, hd, hc, h1, h2, h3⟩ := h
  obtain ⟨c0, c1, c2, c3, c4, hf⟩ := hd.cells
  have f3 := hf 3
  have k1 : D (w.setCell ⟨p, 3, none⟩ (.int .i64 0)) p sb cap mb cv { S with armed := 0 } := hd.set3 0 (by omega)
  obtain ⟨_, _, _, _, c4', hf'⟩ := k1.cells
  have f4' := hf' 4
  have k2 := k1.set4 (.slice none 0 0) [] (fun x hx => nomatch hx) (Nat.zero_le _)
  have HK := Lib.hid k2
  clear hd hc hf hf' k1 k2
  go_enter Try.func71, Try.ntmps71
  go_wp2
  go_end0
  exact ⟨rfl, ⟨sb, cap, mb, .slice none 0 0, HK.out, CV.nil _ _, h1, h2, h3⟩, ((Ch.refl F w).setCell h1 _ _).setCell h1 _ _, by simp, fun k hk => (block_setCell_other hk).trans (block_setCell_other hk)⟩
theorem disarm_any (F : Nat → Prop) (p : Nat) (S : St) (w : World) (h : IsD w F p S) :
    Calls Try.prog 71 #[.pointer (some ⟨p, 0, none⟩)] w fun e w' => e = .returned (.tuple #[]) ∧ IsD w' F p { S with armed := 0, ch := [] } ∧ Ch F w w' ∧ w'.heap.size = w.heap.size :=
  (disarm_own F p S w h).mono fun _ _ q => ⟨q.1, q.2.1, q.2.2.1, q.2.2.2.1⟩
set_option maxHeartbeats 400000 in
theorem revive_any (F : Nat → Prop) (p : Nat) (S : St) (w : World) (h : IsD w F p S) :
    Calls Try.prog 36 #[.pointer (some ⟨p, 0, none⟩)] w fun e w' => e = .returned (.tuple #[]) ∧ IsD w' F p S.revive ∧ Ch F w w' ∧ w'.heap.size = w.heap.size := by
  obtain ⟨sb, cap, mb, cv, hd, hc, h1, h2, h3⟩ := h
  obtain ⟨c0, c1, c2, c3, c4, hf⟩ := hd.cells
  have f2 := hf 2
  have k : IsD (w.setCell ⟨p, 2, none⟩ (.bool false)) F p { S with dead := false } := ⟨sb, cap, mb, cv, hd.set2 false, hc.setCell (fun k hk => hk.2.1) _, h1, h2, h3⟩
  have kd := disarm_any F p _ _ k
  have HK := Lib.hid k
  clear hd hc hf k
  go_enter Try.func36, Try.ntmps36
  go_wp2_with (go_at_call 71; refine kd.mono ?_; rintro e w' ⟨rfl, g1, g2, g3⟩)
  go_end0
  exact ⟨rfl, g1, ((Ch.refl F w).setCell h1 _ _).trans (Gr.refl _ _ _) g2, by rw [g3]; simp⟩
set_option maxHeartbeats 400000 in
theorem place_any (F : Nat → Prop) (p : Nat) (S : St) (i : Int) (w : World) (h : IsD w F p S) (hi : -9223372036854775808 ≤ i ∧ i < 9223372036854775808) :
    Calls Try.prog 75 #[.pointer (some ⟨p, 0, none⟩), .int .i64 i] w fun e w' => e = .returned (.int .i64 (if i < 0 ∨ (S.count : Int) ≤ i then 71 else 0)) ∧ w = w' := by
  have kc := count_any F p S w h
  by_cases a : i < 0
  · rw [if_pos (.inl a)]
    go_enter Try.func75, Try.ntmps75
    go_wp2
    go_ret
    exact ⟨rfl, rfl⟩
  · by_cases b : (S.count : Int) ≤ i
    · rw [if_pos (.inr b)]
      go_enter Try.func75, Try.ntmps75
      go_wp2_with (go_at_call 38; refine kc.mono ?_; rintro e w' ⟨rfl, rfl⟩)
      go_ret
      exact ⟨rfl, rfl⟩
    · rw [if_neg (by omega)]
      go_enter Try.func75, Try.ntmps75
      go_wp2_with (go_at_call 38; refine kc.mono ?_; rintro e w' ⟨rfl, rfl⟩)
      go_ret
      exact ⟨rfl, rfl⟩
set_option maxHeartbeats 400000 in
theorem safe_any (F : Nat → Prop) (p : Nat) (S : St) (w : World) (h : IsD w F p S) :
    Calls Try.prog 30 #[.pointer (some ⟨p, 0, none⟩)] w fun e w' => e = .returned (.string (ofL S.safe)) ∧ w = w' := by
  obtain ⟨sb, cap, mb, cv, hd, hc, h1, h2, h3⟩ := h
  obtain ⟨c0, c1, c2, c3, c4, hf⟩ := hd.cells
  have hcv := hd.row.string (w' := w) 0 S.safe.length cap (by omega)
  rw [List.drop_zero, List.take_length] at hcv
  clear hd hc hf
  go_enter Try.func30, Try.ntmps30
  go_wp2
  go_ret
  exact ⟨rfl, rfl⟩
theorem ret_int {k : IntKind} {a b : Int} (h : a = b) : Ending.returned (.int k a) = .returned (.int k b) := by rw [h]
set_option maxHeartbeats 400000 in
theorem full_any (i : Int) (w : World) : Calls Try.prog 63 #[.int .i64 i] w fun e w' => e = .returned (.int .i64 128) ∧ w = w' := by
  go_enter Try.func63, Try.ntmps63
  go_wp2
  go_ret
  exact ⟨rfl, rfl⟩
set_option maxHeartbeats 400000 in
theorem chosen_any (v : Value) (q : Option Addr) (n cap : Nat) (hv : v = .slice q n cap) (w : World) :
    Calls Try.prog 96 #[v] w fun e w' => e = .returned (.func (.func 104) #[] #[.pointer (some ⟨w.heap.size, 0, none⟩)]) ∧ w' = w.alloc (.cells #[v] 52) := by
  subst hv
  go_enter Try.func96, Try.ntmps96
  go_wp2
  go_ret
  exact ⟨rfl, rfl⟩
set_option maxHeartbeats 400000 in
theorem chosen1_any (G : Nat → Prop) (v : Value) (ch : List Int) (bx i : Nat) (w : World) (hb : w.cell? ⟨bx, 0, none⟩ = some v) (h : CV w G v ch) (hi : i < 4096) :
    Calls Try.prog 104 #[.int .i64 (i : Int), .pointer (some ⟨bx, 0, none⟩)] w fun e w' => e = .returned (.int .i64 (part ch i : Int)) ∧ w = w' := by
  obtain ⟨q, cap, rfl, hle, hc⟩ := h

  by_cases hlt : i < ch.length
  · obtain ⟨b, o, rfl, _, _, hcell⟩ := hc (fun e => by subst e; simp at hlt)
    have c0 := hcell i hlt
    clear hc hcell
    have e : (part ch i : Int) = min (max (ch.getD i 0) 0) 128 := by unfold part; omega
    rw [e]
    generalize ch.getD i 0 = x at *
    generalize ch.length = n at *
    go_enter Try.func104, Try.ntmps104
    go_wp2
    all_goals (go_ret; exact ⟨ret_int (by omega), rfl⟩)
  · have e : part ch i = 0 := by unfold part; rw [List.getD_eq_getElem?_getD, List.getElem?_eq_none (by omega)]; decide
    rw [e]
    clear hc
    generalize ch.length = n at *
    go_enter Try.func104, Try.ntmps104
    go_wp2
    go_ret
    exact ⟨rfl, rfl⟩
end Go.Proofs.Ytnecbbflcpngcaa
