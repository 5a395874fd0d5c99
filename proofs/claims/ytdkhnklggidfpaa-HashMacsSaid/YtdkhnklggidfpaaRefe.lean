/- The document's number turned right, a number as four bytes, and the numbers K: what the calls return; nothing that was there turns. Conditions: the number has 32 bits, the places are from 1 to 31. -/
import Derived.Test.YtdkhnklggidfpaaRefd
namespace Go.Proofs.Ytdkhnklggidfpaa
open Go.RowKit
set_option linter.unusedVariables false

set_option maxHeartbeats 400000 in
theorem rror_any (x n : Nat) (hx : x < 4294967296) (h1 : 1 ≤ n) (h2 : n ≤ 31) (w : World) :
    Calls Try.prog 38 #[.int .u32 x, .int .i64 (n : Int)] w fun e w' => e = .returned (.int .u32 (ror x n : Nat)) ∧ ∃ k, w' = w.drewN k := by
  have a2 : ((32 : Int) - n).toNat = 32 - n := by omega
  have a3 : (0 : Int) ≤ 32 - (n : Int) := by omega
  go_enter Try.func38, Try.ntmps38
  go_wp2
  go_quiet (fail)
  go_wp2
  go_ret
  refine ⟨ret_int ?_, _, rfl⟩
  have e1 : (x : Int) * 2 ^ (32 - n) % 4294967296 = ((x * 2 ^ (32 - n) % 4294967296 : Nat) : Int) := by simp
  have e2 : (x : Int) / 2 ^ n = ((x / 2 ^ n : Nat) : Int) := by simp
  rw [e1, e2]
  rw [u32_or_nat _ _ (Nat.lt_of_le_of_lt (Nat.div_le_self _ _) hx) (Nat.mod_lt _ (by decide)), Nat.or_comm]
  rfl
set_option maxHeartbeats 400000 in
theorem four_any (x : Nat) (hx : x < 4294967296) (w : World) :
    Calls Try.prog 35 #[.int .u32 (x : Nat)] w fun e w' => e = .returned (.slice (some ⟨w.heap.size, 0, none⟩) 4 4) ∧ w'.heap[w.heap.size]? = some (.cells (bcells (four x)) 5 (0, 0)) ∧ Below w.heap.size w w' := by
  have hf : ∀ W : World, W.alloc (.cells #[Value.int .u8 ((x : Int) / 16777216), Value.int .u8 ((x : Int) / 65536 % 256), Value.int .u8 ((x : Int) / 256 % 256), Value.int .u8 ((x : Int) % 256)] 5) = W.alloc (.cells (bcells (four x)) 5) := fun W => by
    unfold bcells; rw [← four_cells x hx]
  go_enter Try.func35, Try.ntmps35
  go_wp2
  go_ret
  exact ⟨rfl, block_new _ _, (Below.refl _ _).alloc (Nat.le_refl _) _⟩

theorem root_in (p i n r : Nat) (w : World) (hi : i < 64) (hp : p = primes.getD i 0) (hn : n ≤ 3) (hr : rootF p n = r) :
    Calls Try.prog 37 #[.int .u64 (p : Nat), .int .i64 (n : Nat)] w fun e w' => e = .returned (.int .u32 (r : Nat)) ∧ Below w.heap.size w w' := by
  subst hr
  exact root_any p n w (by rw [hp]; have := (primes_big i hi).2; omega) hn
theorem root3 (p i r : Nat) (w : World) (hi : i < 64) (hp : p = primes.getD i 0) (hr : rootF p 3 = r) :
    Calls Try.prog 37 #[.int .u64 (p : Nat), .int .i64 3] w fun e w' => e = .returned (.int .u32 (r : Nat)) ∧ Below w.heap.size w w' := root_in p i 3 r w hi hp (by decide) hr
theorem root2 (p i r : Nat) (w : World) (hi : i < 64) (hp : p = primes.getD i 0) (hr : rootF p 2 = r) :
    Calls Try.prog 37 #[.int .u64 (p : Nat), .int .i64 2] w fun e w' => e = .returned (.int .u32 (r : Nat)) ∧ Below w.heap.size w w' := root_in p i 2 r w hi hp (by decide) hr

theorem Try.infoU32 : (Try.prog.info? 47).map (fun i => (i.zero, i.size, i.bytes)) = some (some (.int .u32 0), 1, 4) := by kernel_rfl
/-- numbers of 32 bits in a row of the call's own -/
def OwnW (w : World) (base : Nat) (v : Value) (l : List Nat) : Prop := w.ownsRow base 47 1 v l.length (l.map cellW) ∧ v ≠ .slice none 0 0
/-- block g begins with these numbers of 32 bits -/
def RowW (w : World) (g : Nat) (l : List Nat) : Prop := g < w.heap.size ∧ ∀ i, i < l.length → w.cell? ⟨g, i, none⟩ = some (.int .u32 (l.getD i 0 : Nat))
theorem RowW.below {w w' : World} {B g : Nat} {l : List Nat} (h : RowW w g l) (hb : Below B w w') (hg : g < B) : RowW w' g l :=
  ⟨Nat.lt_of_lt_of_le h.1 hb.size, fun i hi => by rw [hb.cell (p := ⟨g, i, none⟩) hg]; exact h.2 i hi⟩
theorem RowW.of_block {w : World} {g : Nat} {l : List Nat} {t : TypeId} {fr : Nat × Nat} (h : w.heap[g]? = some (.cells (wcells l) t fr)) : RowW w g l :=
  ⟨block_lt h, fun i hi => by rw [cell_of_row w g i _ _ _ h, wcells_at l i hi]⟩
theorem OwnW.below {w w' : World} {B : Nat} {v : Value} {l : List Nat} (h : OwnW w B v l) (hb : Below w.heap.size w w') : OwnW w' B v l := by
  obtain ⟨⟨hl, h2⟩, hne⟩ := h
  refine ⟨⟨hl, ?_⟩, hne⟩
  rcases h2 with h2 | ⟨g, cap, cur, hv, hg, hrow, hr⟩
  · exact .inl h2
  · exact .inr ⟨g, cap, cur, hv, hg, heap_below hrow hb (block_lt hrow), hr⟩
theorem OwnW.slice {w : World} {B : Nat} {v : Value} {l : List Nat} (h : OwnW w B v l) : ∃ g cap, v = .slice (some ⟨g, 0, none⟩) l.length cap ∧ B ≤ g ∧ RowW w g l := by
  obtain ⟨h0, hne⟩ := h
  have h1 := h0
  obtain ⟨hl, h2⟩ := h0
  rcases h2 with h2 | ⟨g, cap, cur, hv, hg, hrow, _⟩
  · exact absurd h2.1 hne
  · refine ⟨g, cap, hv, hg, block_lt hrow, fun i hi => ?_⟩
    subst hv
    rw [World.ownsRow.cellAt h1 i (by omega)]
    simp [cellW, List.getElem?_eq_getElem hi]
theorem OwnW.more {w' : World} {B : Nat} {v' : Value} {l : List Nat} {x : Nat} (h : w'.ownsRow B 47 1 v' (l.length + 1) (l.map cellW ++ [.int .u32 (x : Nat)])) (hne : v' ≠ .slice none 0 0) : OwnW w' B v' (l ++ [x]) := by
  refine ⟨?_, hne⟩
  have e1 : (l ++ [x]).length = l.length + 1 := by rw [List.length_append]; rfl
  have e2 : (l ++ [x]).map cellW = l.map cellW ++ [.int .u32 (x : Nat)] := by rw [List.map_append]; rfl
  rw [e1, e2]; exact h
theorem keys_snoc (k : Nat) (h : k < 64) : keys.take (k + 1) = keys.take k ++ [rootF (primes.getD k 0) 3] := by
  have e : keys[k]? = some (rootF (primes.getD k 0) 3) := by
    rw [← roots_keys, List.getElem?_map, List.getElem?_eq_getElem (show k < primes.length from h), List.getD_eq_getElem?_getD, List.getElem?_eq_getElem (show k < primes.length from h)]; rfl
  rw [List.take_add_one, e]; rfl

set_option maxRecDepth 100000 in
set_option maxHeartbeats 2000000 in
theorem rkeys_any (w : World) :
    Calls Try.prog 26 #[] w fun e w' => ∃ g cap, e = .returned (.slice (some ⟨g, 0, none⟩) 64 cap) ∧ RowW w' g keys ∧ Below w.heap.size w w' := by
  obtain ⟨i0, hi, hz0, hz1, hz2⟩ := info_parts Try.infoU32
  have HI := Lib.hid (And.intro hi (And.intro hz0 (And.intro hz1 hz2)))
  clear hi hz0 hz1 hz2
  obtain ⟨D, hD⟩ : ∃ D, D = w.heap.size := ⟨_, rfl⟩
  have own0 : OwnW (w.alloc (.cells #[] 47)) D (.slice (some ⟨D, 0, none⟩) 0 0) [] := by
    rw [hD]; exact ⟨World.ownsRow_made w #[] 0 (Nat.le_refl _) (by decide) rfl, by simp⟩
  have b0 : Below D w (w.alloc (.cells #[] 47)) := by rw [hD]; exact (Below.refl _ _).alloc (Nat.le_refl _) _
  have h0s : D < (w.alloc (.cells #[] 47)).heap.size := by rw [hD]; simp
  have HD := Lib.hid hD
  clear hD
  go_enter Try.func26, Try.ntmps26
  go_wp2_with fail
  rw [← HD.out]
  generalize w.alloc (.cells #[] 47) = w0 at *
  refine (primes_any 64 _ (by decide)).mono ?_
  rintro e w1 ⟨gp, cp, rfl, hgp, hrp, b1⟩
  have hne0 : (Value.slice (some ⟨D, 0, none⟩) 0 0).ownBlock ≠ some gp := by simp [Value.ownBlock]; omega
  have B1 : Below D w w1 := b0.trans (b1.mono (Nat.le_of_lt h0s))
  have ow1 := own0.below b1
  have hD1 : D ≤ w1.heap.size := Nat.le_trans (Nat.le_of_lt h0s) b1.size
  rw [show primes.take 64 = primes from rfl] at hrp
  clear own0 b0 h0s b1
  go_wp2_with fail
  go_loopw [1, 3] (fun v i wr => ∃ k : Nat, k ≤ 64 ∧ i = .int .i64 k ∧ OwnW wr D v (keys.take k) ∧ v.ownBlock ≠ some gp ∧ RowU wr gp primes ∧ Below D w wr ∧ D ≤ wr.heap.size) (fun _ i _ => 64 - (intOf i).toNat)
  case atStart => exact ⟨0, by omega, rfl, ow1, hne0, hrp, B1, hD1⟩
  case round =>
    obtain ⟨k, hk, rfl, ow, hne, hp, hb, hbs⟩ := hrel
    clear ow1 hrp B1 hD1 hne0
    have hkl : (keys.take k).length = k := by rw [List.length_take, keys_length]; omega
    by_cases hlt : k < 64
    · have hc := hp.2 k hlt
      have HSN := Lib.hid (keys_snoc k hlt)
      obtain ⟨x, hx⟩ : ∃ x, x = primes.getD k 0 := ⟨_, rfl⟩
      rw [← hx] at hc HSN
      have HX := Lib.hid hx
      have HOW := Lib.hid ow
      have HP := Lib.hid hp
      have HNE := Lib.hid hne
      clear hx ow hp hne
      obtain ⟨r, hr⟩ : ∃ r, rootF x 3 = r := ⟨_, rfl⟩
      rw [hr] at HSN
      have HRT : Unit → rootF x 3 = r := fun _ => hr
      clear hr
      go_wp2_with (first
        | (go_at_call 37; refine (root3 x k r _ hlt HX.out (HRT ())).mono ?_; rintro e w5 ⟨rfl, b5⟩; have OW5 := Lib.hid (HOW.out.below b5); have B5 := hb.trans (b5.mono hbs); have hD5 : D ≤ w5.heap.size := Nat.le_trans hbs b5.size)
        | (at_builtin; refine wpList_append_own_at _ rfl (.tmp 10) (.tmp 16) 42 rfl D 47 i0 (.int .u32 0) 1 4 Try.underlying42 HI.out.1 HI.out.2.1 HI.out.2.2.1 HI.out.2.2.2 rfl (by decide) _ _ _ rfl (OW5.out.1.alloc _) ⟨w5.heap.size, 0, none⟩ 1 1 [Value.int .u32 (r : Nat)] rfl rfl (news1U 47 _ _) (one1U _ _) (by rw [hkl]; unfold maxLen; omega) (by rw [hkl]; omega) (by simp; omega) ?_; intro v' w2 ob gr nil_ at_; have OB := Lib.hid (And.intro ob (And.intro gr (And.intro nil_ at_))); clear ob gr nil_ at_))
      have nb : v' ≠ .slice none 0 0 := fun h => OW5.out.2 (OB.out.2.2.1.1 h).1
      have fb : OwnW w2 D v' (keys.take k ++ [r]) := OwnW.more OB.out.1 nb
      have G2 : Below D w w2 := (B5.alloc (by exact hD5) _).grown OB.out.2.1 (by simp; omega) (fun g' hg' => by have := (OW5.out.1.lt g' hg').1; omega)
      have hDv2 : D ≤ w2.heap.size := Nat.le_trans (by simp; omega) OB.out.2.1.size
      have hp5 : RowU w2 gp primes := by
        have h1 := HP.out.below b5 HP.out.1
        refine ⟨Nat.lt_of_lt_of_le h1.1 (Nat.le_trans (by simp) OB.out.2.1.size), fun i hi => ?_⟩
        have h2 := h1.2 i hi
        have h3 : (w5.alloc (.cells #[Value.int .u32 (r : Nat)] 47)).cell? ⟨gp, i, none⟩ = some (.int .u64 (primes.getD i 0 : Nat)) := by
          rw [World.cell?_alloc_past _ _ _ h1.1]; exact h2
        refine OB.out.2.1.cell h3 ?_
        exact fun he => HNE.out he.symm
      have hne2 : v'.ownBlock ≠ some gp := by
        rcases OB.out.2.2.2 with h | h
        · rw [h]; exact HNE.out
        · rw [h]
          have h1 := (HP.out.below b5 HP.out.1).1
          simp; omega
      rw [← HSN.out] at fb
      clear nb
      go_roundw
      case rel => exact ⟨k + 1, by omega, by go_num, fb, hne2, hp5, G2, hDv2⟩
      case measure => simp [intOf]; omega
    · have hk64 : k = 64 := by omega
      subst hk64
      obtain ⟨g, cap, rfl, hg, hro⟩ := ow.slice
      rw [hkl]
      rw [show keys.take 64 = keys from rfl] at hro
      clear ow hkl hp hne
      go_wp2
      go_ret
      exact ⟨g, cap, rfl, hro, by rw [← HD.out]; exact hb⟩
end Go.Proofs.Ytdkhnklggidfpaa
