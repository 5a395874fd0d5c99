/- What was made of the lines so far: how it lies in memory, and what a line does to it. No conditions. -/
import Derived.Test.YtmclcobklcjmnaaDoorMps
import Derived.Maps.AppendAt
namespace Go.Proofs.YtmclcobklcjmnaaDoor
open Go.RowKit Go.Maps
set_option linter.unusedVariables false
set_option linter.unusedSimpArgs false

structure Way where
  line : Int
  place : Nat
  label : Bs
structure St where
  prog : Bs
  labels : Bs → Option Int
  count : Nat
  ways : List Way
def wayV (x : Way) : List Value := [.int .i64 x.line, .int .i64 (x.place : Int), .string (str x.label)]
def waysV (l : List Way) : List Value := l.flatMap wayV
theorem waysV_length (l : List Way) : (waysV l).length = l.length * 3 := by
  induction l with
  | nil => rfl
  | cons x l ih => simp [waysV, wayV] at *; omega
/-- labels' places are within the program -/
def St.ok (S : St) : Prop := (∀ l v, S.labels l = some v → 0 ≤ v ∧ v ≤ 4096) ∧ S.prog.length ≤ 4096
/-- block p is the assembly S, whose rows and map lie from n0 on -/
structure Asm (n0 p mb : Nat) (S : St) (w : World) : Prop where
  base : n0 ≤ p
  bmap : n0 ≤ mb
  cells : ∃ vp vw, w.heap[p]? = some (.cells #[vp, .map (some mb), vw] 48) ∧ w.ownsRow n0 5 1 vp S.prog.length (Lib.byteCells S.prog) ∧ w.ownsRow n0 55 3 vw S.ways.length (waysV S.ways)
  map : MapS w mb S.count S.labels
/-- the other blocks are as they were -/
structure Oth (n0 p mb : Nat) (w w' : World) : Prop where
  below : Below n0 w w'
  old : ∀ k o, w.heap[k]? = some o → k ≠ p → k ≠ mb → (∀ c fz, o ≠ .cells c 5 fz) → (∀ c fz, o ≠ .cells c 55 fz) → w'.heap[k]? = some o
theorem Oth.refl (n0 p mb : Nat) (w : World) : Oth n0 p mb w w := ⟨Below.refl _ _, fun _ _ h _ _ _ _ => h⟩
theorem Oth.trans {n0 p mb : Nat} {a b c : World} (h : Oth n0 p mb a b) (k : Oth n0 p mb b c) : Oth n0 p mb a c :=
  ⟨h.below.trans k.below, fun i o hi h1 h2 h3 h4 => k.old i o (h.old i o hi h1 h2 h3 h4) h1 h2 h3 h4⟩
theorem Oth.of_below {n0 p mb : Nat} {w w' : World} (h : Below w.heap.size w w') (hn : n0 ≤ w.heap.size) : Oth n0 p mb w w' :=
  ⟨h.mono hn, fun k o hk _ _ _ _ => (h.block k (block_lt hk)).trans hk⟩
theorem Oth.put {n0 p mb : Nat} {a w : World} (h : Oth n0 p mb a w) (hp : n0 ≤ p) (i : Nat) (v : Value) : Oth n0 p mb a (w.setCell ⟨p, i, none⟩ v) :=
  ⟨h.below.setCell (p := ⟨p, i, none⟩) hp v, fun k o hk h1 h2 h3 h4 => by rw [Below.heap_setCell _ _ _ _ h1]; exact h.old k o hk h1 h2 h3 h4⟩
theorem Asm.of_below {n0 p mb : Nat} {S : St} {w w' : World} (h : Asm n0 p mb S w) (hb : Below w.heap.size w w') : Asm n0 p mb S w' := by
  obtain ⟨h1, h2, ⟨vp, vw, hc, ho1, ho2⟩, hm⟩ := h
  have g : w.grownBy w' none := ⟨hb.os, hb.tape, hb.output, hb.size, fun i hi _ => hb.block i hi⟩
  exact ⟨h1, h2, ⟨vp, vw, (hb.block p (block_lt hc)).trans hc, ho1.kept g (by cases vp.ownBlock <;> simp), ho2.kept g (by cases vw.ownBlock <;> simp)⟩, hm.of_heap (hb.block mb hm.lt)⟩
theorem Asm.lt {n0 p mb : Nat} {S : St} {w : World} (h : Asm n0 p mb S w) : p < w.heap.size := by
  obtain ⟨_, _, ⟨vp, vw, hc, _⟩, _⟩ := h
  exact block_lt hc
/-- the label of the place behind all lines so far -/
def nameP (S : St) (l : Bs) : Int ⊕ St := if labB l = false then .inl 92 else if (S.labels l).isSome then .inl 93 else .inr { S with labels := fun x => if x = l then some (S.prog.length : Int) else S.labels x, count := S.count + 1 }
def addP (S : St) (l : Bs) (num : Int) : Int ⊕ St :=
  if l = [] then .inr S
  else if Lib.hasSuffix l [58] = true then nameP S (Lib.trimSuffix l [58])
  else match bofP l with
    | none => .inl 92
    | some (b, lb) => if 4096 < S.prog.length + b.length then .inl 94 else .inr { S with prog := S.prog ++ b, ways := if lb = [] then S.ways else S.ways ++ [⟨num, S.prog.length, lb⟩] }
def AsmPost (n0 p mb : Nat) (R : Int ⊕ St) (w : World) (e : Ending) (w' : World) : Prop := (match R with | .inl c => e = .returned (.int .i64 c) | .inr S => e = .returned (.int .i64 0) ∧ Asm n0 p mb S w') ∧ Oth n0 p mb w w'
theorem Asm.map_ne {n0 p mb : Nat} {S : St} {w : World} (h : Asm n0 p mb S w) : p ≠ mb := by
  obtain ⟨_, _, ⟨vp, vw, hc, _⟩, D, ⟨es, clock, hb, _⟩, _⟩ := h
  rintro rfl
  rw [hc] at hb
  cases hb
theorem own_ne {n0 : Nat} {e : TypeId} {sz : Nat} {v : Value} {n : Nat} {xs : List Value} {w : World} {k : Nat} {o : Obj} (h : w.ownsRow n0 e sz v n xs) (hk : w.heap[k]? = some o) (ho : ∀ c fz, o ≠ .cells c e fz) : v.ownBlock ≠ some k := by
  rcases h.2 with ⟨rfl, _⟩ | ⟨g, cap, cur, rfl, _, hg, _⟩
  · simp [Value.ownBlock]
  · intro e2
    simp [Value.ownBlock] at e2
    subst e2
    rw [hg] at hk
    exact ho cur (0, 0) (Option.some.inj hk).symm
theorem own_slice {n0 : Nat} {e : TypeId} {sz : Nat} {v : Value} {n : Nat} {xs : List Value} {w : World} (h : w.ownsRow n0 e sz v n xs) : ∃ ao cap, v = .slice ao n cap := by
  rcases h.2 with ⟨rfl, rfl⟩ | ⟨g, cap, cur, rfl, _⟩
  · exact ⟨none, 0, rfl⟩
  · exact ⟨_, _, rfl⟩
theorem Oth.grown {n0 p mb : Nat} {a w w' : World} (h : Oth n0 p mb a w) (hg : w.grownBy w' (some mb)) (hm : n0 ≤ mb) (hn : n0 ≤ w.heap.size) : Oth n0 p mb a w' :=
  ⟨h.below.grown hg hn (fun k e => by cases e; exact hm), fun k o hk h1 h2 h3 h4 => by
    have := h.old k o hk h1 h2 h3 h4
    rw [hg.block k (block_lt this) (fun e => h2 (Option.some.inj e))]
    exact this⟩
set_option maxRecDepth 100000 in
set_option maxHeartbeats 4000000 in
theorem name_any (n0 p mb : Nat) (S : St) (s : ByteArray) (hs : s.size ≤ 4096 ∨ labB s.data.toList = false) (w : World) (h : Asm n0 p mb S w) (hok : S.ok) (hn : S.count < 100000) : Calls Tryd.prog 46 #[.pointer (some ⟨p, 0, none⟩), .string s] w (AsmPost n0 p mb (nameP S s.data.toList) w) := by
  have KL := Lib.hid (lab_any s)
  unfold nameP
  cases hl : labB s.data.toList with
  | false =>
    rw [hl] at KL
    rw [if_pos rfl]
    have hpost : Hid (∀ w', Below w.heap.size w w' → AsmPost n0 p mb (.inl 92) w (.returned (.int .i64 92)) w') := Lib.hid fun w' hb => ⟨rfl, Oth.of_below hb (Nat.le_trans h.base (Nat.le_of_lt h.lt))⟩
    clear hl h hok hn hs
    go_enter Tryd.func46, Tryd.ntmps46
    go_wp2_with (go_at_call 65; (with_reducible refine (KL.out _).mono ?_); rintro e w1 ⟨rfl, hb⟩; have HB := Lib.hid hb; clear hb)
    go_ret
    exact hpost.out _ HB.out
  | true =>
    rw [hl] at KL
    rw [if_neg (by simp)]
    have hs' : s.size ≤ 4096 := hs.resolve_right (by rw [hl]; simp)
    have hA : Hid (∀ w1, Below w.heap.size w w1 → Asm n0 p mb S w1) := Lib.hid fun w1 hb => h.of_below hb
    have hO : Hid (∀ w1, Below w.heap.size w w1 → Oth n0 p mb w w1) := Lib.hid fun w1 hb => Oth.of_below hb (Nat.le_trans h.base (Nat.le_of_lt h.lt))
    have hwf : Hid (∀ l v, S.labels l = some v → (Lit.int IntKind.i64 v).wf = true) := Lib.hid fun l v hlv => WalkArith.wf_i64 (by have := hok.1 l v hlv; omega)
    have HK := Lib.hid (And.intro hs' (And.intro hok hn))
    clear hl hs hs' h hok hn
    obtain ⟨R, hR⟩ : ∃ R, R = (if (S.labels s.data.toList).isSome = true then .inl 93 else .inr { S with labels := fun x => if x = s.data.toList then some (S.prog.length : Int) else S.labels x, count := S.count + 1 } : Int ⊕ St) := ⟨_, rfl⟩
    rw [← hR]
    have HR := Lib.hid hR
    clear hR
    go_enter Tryd.func46, Tryd.ntmps46
    go_upto_region 3 with (go_at_call 65; (with_reducible refine (KL.out _).mono ?_); rintro e w1 ⟨rfl, hb⟩; have HB := Lib.hid hb; clear hb)
    obtain ⟨hb1, hb2, ⟨vp, vw, hc, ho1, ho2⟩, hm⟩ := hA.out _ HB.out
    obtain ⟨ao, cap, rfl⟩ := own_slice ho1
    have c0 := cell_of_row w1 p 0 _ _ _ hc
    have c1 := cell_of_row w1 p 1 _ _ _ hc
    simp at c0 c1
    have lk := hm.look s HK.out.1 hwf.out
    cases hM : S.labels s.data.toList with
    | some v =>
      rw [hM] at lk
      have hpost : Hid (∀ w', Below w.heap.size w w' → AsmPost n0 p mb R w (.returned (.int .i64 93)) w') := Lib.hid fun w' hb => by
        rw [HR.out, hM]
        exact ⟨rfl, hO.out _ hb⟩
      dsimp only [Option.isSome, Option.getD] at lk
      clear hM hm hc ho1 ho2 hb1 hb2 hwf
      go_wp2
      go_ret
      exact hpost.out _ HB.out
    | none =>
      rw [hM] at lk
      dsimp only [Option.isSome, Option.getD] at lk
      have lenw : (Lit.int IntKind.i64 (S.prog.length : Int)).wf = true := WalkArith.wf_i64 (by have := HK.out.2.1.2; omega)
      have hm2 : MapS w1.drew mb S.count S.labels := hm.of_heap rfl
      obtain ⟨w2, hst, hm3, hg, hsz⟩ := hm2.store HK.out.2.2 s HK.out.1 (S.prog.length : Int) lenw
      have hne : p ≠ mb := (hA.out _ HB.out).map_ne
      have hpost : Hid (AsmPost n0 p mb R w (.returned (.int .i64 0)) w2) := Lib.hid (by
        rw [HR.out, hM]
        have hsome : ∃ es ck, w1.heap[mb]? = some (.map es ck) := by obtain ⟨D, ⟨es, clock, hb, _⟩, _⟩ := hm; exact ⟨es, clock, hb⟩
        obtain ⟨es, ck, hmb⟩ := hsome
        have hg1 : w1.grownBy w2 (some mb) := ⟨hg.os, hg.tape, hg.output, hg.size, hg.block⟩
        refine ⟨⟨rfl, hb1, hb2, ⟨_, vw, ?_, ho1.kept hg1 (.inr (own_ne ho1 hmb (by intro c fz e; cases e))), ho2.kept hg1 (.inr (own_ne ho2 hmb (by intro c fz e; cases e)))⟩, hm3⟩, ?_⟩
        · rw [hg1.block p (block_lt hc) (fun e => hne (Option.some.inj e))]; exact hc
        · exact (hO.out _ HB.out).grown hg1 hb2 (Nat.le_trans hb1 (Nat.le_of_lt (block_lt hc))))
      clear hM hm hc ho1 ho2 hb1 hb2 hwf hm2 hm3 hg hsz lenw hne
      go_upto_region 6 with (fail)
      go_still_tail 10, (by kernel_rfl)
      change wpList _ _ _ _ _ w1.drew
      go_wp2
      go_ret
      exact hpost.out
end Go.Proofs.YtmclcobklcjmnaaDoor
