/- What is written in pieces has the sum of it all at once, at each place; a clone goes its own way: the walk. Conditions: the bytes are few enough for a machine. -/
import Derived.Test.YtdkhnklggidfpaaArgs
import Derived.Laws.AppendOwn
import Derived.Lib.AppendStr
import Derived.Deep.RegionWith
namespace Go.Proofs.Ytdkhnklggidfpaa
open Go.RowKit
set_option linter.unusedVariables false

/-- the bytes so far, in a row of their own -/
def OwnB (w : World) (base : Nat) (v : Value) (l : List UInt8) : Prop := w.ownsRow base 5 1 v l.length (ownLen l) ∧ v ≠ .slice none 0 0
theorem OwnB.back {w : World} {B : Nat} {v : Value} {l : List UInt8} (h : OwnB w B v l) : (convert 32 9 v).run Try.prog w = .ok (.string ⟨l.toArray⟩) w := own_back rfl h.1 h.2

theorem OwnB.below {w w' : World} {B : Nat} {v : Value} {l : List UInt8} (h : OwnB w B v l) (hb : Below w.heap.size w w') : OwnB w' B v l := by
  obtain ⟨⟨hl, h2⟩, hne⟩ := h
  refine ⟨⟨hl, ?_⟩, hne⟩
  rcases h2 with h2 | ⟨g, cap, cur, hv, hg, hrow, hr⟩
  · exact .inl h2
  · exact .inr ⟨g, cap, cur, hv, hg, heap_below hrow hb (block_lt hrow), hr⟩
theorem OwnB.keeps {w w' : World} {B b : Nat} {v : Value} {l : List UInt8} (h : OwnB w B v l) (k : Keeps b w w') (hb : b < B) : OwnB w' B v l := by
  obtain ⟨⟨hl, h2⟩, hne⟩ := h
  refine ⟨⟨hl, ?_⟩, hne⟩
  rcases h2 with h2 | ⟨g, cap, cur, hv, hg, hrow, hr⟩
  · exact .inl h2
  · exact .inr ⟨g, cap, cur, hv, hg, by rw [k.block g (block_lt hrow) (by omega)]; exact hrow, hr⟩
theorem OwnB.slice {w : World} {B : Nat} {v : Value} {l : List UInt8} (h : OwnB w B v l) : ∃ g cap, v = .slice (some ⟨g, 0, none⟩) l.length cap := by
  obtain ⟨⟨hl, h2⟩, hne⟩ := h
  rcases h2 with h2 | ⟨g, cap, cur, hv, _⟩
  · exact absurd h2.1 hne
  · exact ⟨g, cap, hv⟩
theorem OwnB.more {w' : World} {B : Nat} {v' : Value} {l : List UInt8} {x : ByteArray} (h : w'.ownsRow B 5 1 v' (l.length + x.size) (ownLen l ++ Lib.strCells x)) (hne : v' ≠ .slice none 0 0) : OwnB w' B v' (l ++ x.data.toList) := by
  refine ⟨?_, hne⟩
  have e1 : (l ++ x.data.toList).length = l.length + x.size := by rw [List.length_append, baList]
  have e2 : ownLen (l ++ x.data.toList) = ownLen l ++ Lib.strCells x := by unfold ownLen; rw [List.map_append]; rfl
  rw [e1, e2]; exact h
theorem sum_list (l : List UInt8) (w : World) (h : l.length < 576460752303423488) :
    Calls Try.prog 12 #[.string ⟨l.toArray⟩] w fun e w' => e = .returned (.string ⟨(sumL l).toArray⟩) ∧ Below w.heap.size w w' := by
  have := sum_any ⟨l.toArray⟩ w (by rw [baSize]; exact h)
  rw [baOf] at this
  exact this
def oth : List UInt8 := [111, 116, 104, 101, 114]
theorem sum_other (l : List UInt8) (w : World) (h : l.length < 288230376151711744) :
    Calls Try.prog 12 #[.string (⟨l.toArray⟩ ++ ⟨#[111, 116, 104, 101, 114]⟩)] w fun e w' => e = .returned (.string ⟨(sumL (l ++ oth)).toArray⟩) ∧ Below w.heap.size w w' := by
  have e : (⟨l.toArray⟩ : ByteArray) ++ ⟨#[111, 116, 104, 101, 114]⟩ = ⟨(l ++ oth).toArray⟩ := by
    apply ByteArray.ext
    simp [oth]
  rw [e]
  exact sum_list _ w (by rw [List.length_append]; show _ + 5 < _; omega)

set_option maxRecDepth 100000 in
set_option maxHeartbeats 4000000 in
theorem pieces_walk (ax : Option Addr) (xs : List ByteArray) (capx : Nat) (w : World) (hx : (flat xs).length + xs.length ≤ 1048576) (hX : LiesS w ax xs) :
    Calls Try.prog 6 #[.slice ax xs.length capx] w fun e w' => e = .returned (.bool true) ∧ Below w.heap.size w w' := by
  have B0 := Below.refl w.heap.size w
  go_enter Try.func6, Try.ntmps6
  go_wp2_with fail
  refine (new_any _).mono ?_
  rintro e w1 ⟨i, rfl, hi, hh1, b1⟩
  have B1 := B0.trans (b1.mono B0.size)
  have i0 : w.heap.size ≤ i := Nat.le_trans B0.size hi
  go_wp2_with fail
  refine (fixed_any _).mono ?_
  rintro e w2 ⟨rfl, b2⟩
  have B2 := B1.trans (b2.mono B1.size)
  have ha := hh1.below b2 hh1.lt
  have hown0 : OwnB (w2.alloc (.cells #[] 5)) w2.heap.size (.slice (some ⟨w2.heap.size, 0, none⟩) 0 0) [] := ⟨World.ownsRow_made w2 #[] 0 (Nat.le_refl _) (by decide) rfl, by simp⟩
  have hi2 := ha.lt
  have ha2 : IsH (w2.alloc (.cells #[] 5)) i [] := ha.below ((Below.refl _ w2).alloc (Nat.le_refl _) _) hi2
  have B3 : Below w.heap.size w (w2.alloc (.cells #[] 5)) := B2.alloc B2.size _
  obtain ⟨D, hD⟩ : ∃ D, D = w2.heap.size := ⟨_, rfl⟩
  rw [← hD] at hown0 hi2
  have hwD : w.heap.size ≤ D := by rw [hD]; exact B2.size
  have hDs : D ≤ (w2.alloc (.cells #[] 5)).heap.size := by rw [hD]; simp
  clear b1 b2 B0 B1 hh1 ha hi B2
  go_wp2_with fail
  go_loopw [4, 5, 6] (fun v j _ wr => ∃ k : Nat, k ≤ xs.length ∧ j = .int .i64 k ∧ OwnB wr D v (flat (xs.take k)) ∧ IsH wr i (flat (xs.take k)) ∧ Below w.heap.size w wr ∧ D ≤ wr.heap.size) (fun _ j _ _ => xs.length - (intOf j).toNat)
  case atStart => exact ⟨0, Nat.zero_le _, rfl, by rw [← hD]; simpa [flat] using hown0, by simpa [flat] using ha2, B3, hDs⟩
  case round =>
    obtain ⟨q, hq, rfl, hown, hia, hbel, hDw⟩ := hrel
    clear hown0 ha2 B3 hDs
    by_cases hlq : q < xs.length
    · obtain ⟨a, rfl, hc, hab⟩ := hX q hlq
      have hc' : wr.cell? (a.add q) = some (.string xs[q]) := by rw [hbel.cell (p := a.add q) (by rw [add_block]; exact hab)]; exact hc
      have hfm := flat_mem xs q hlq
      have HF := Lib.hid (flat_take xs q hlq)
      have hLl : (flat (xs.take q)).length ≤ 1048576 := by omega
      have hxs : xs[q].size ≤ 1048576 := by omega
      have hLn : Hid ((flat (xs.take q)).length + xs[q].size ≤ 1048576) := by unfold Hid; omega
      clear hfm
      generalize flat (xs.take q) = L at *
      generalize xs[q] = x at *
      clear hc
      have hLo : (L ++ oth).length < 576460752303423488 := by rw [List.length_append]; show _ + 5 < _; omega
      have hai : a.block ≠ i := by omega
      go_wp2_with fail
      refine (clone_any i L wr hia).mono ?_
      rintro e v1 ⟨rfl, hcl, hsz1, c1⟩
      have hia1 := hia.below c1 hia.lt
      have hil := hia.lt
      go_wp2_with fail
      refine (write_any wr.heap.size L _ v1 hcl (by decide) (by show L.length + 5 < _; omega)).mono ?_
      rintro e v2 ⟨rfl, hcl2, k2⟩
      have C2 := Keeps.to_below c1 k2 (Nat.le_refl _) c1.size
      have hia2 := hia1.keeps k2 (by omega)
      have hown2 := hown.below C2
      have hc2 : v2.cell? (a.add q) = some (.string x) := by
        rw [C2.cell (p := a.add q) (World.block_lt_of_cell? wr _ hc')]; exact hc'
      have D2 := hbel.trans (C2.mono hbel.size)
      have hcl2' : IsH v2 wr.heap.size (L ++ oth) := hcl2
      have hcn : wr.heap.size ≠ i := by omega
      have hD2 : D ≤ v2.heap.size := Nat.le_trans hDw C2.size
      clear hcl hsz1 c1 hia1 k2 hia hown hc' hbel hcl2 C2
      generalize wr.heap.size = cb at *
      go_wp2_with fail
      refine (write_any i L x v2 hia2 (by unfold maxLen; omega) (by omega)).mono ?_
      rintro e v3 ⟨rfl, hia3, k3⟩
      have hcl3 := hcl2'.keeps k3 hcn
      have hown3 := hown2.keeps k3 hi2
      have hc3 := cell_keeps hc2 k3 (by rw [add_block]; exact hai)
      have D3 := Keeps.to_below D2 k3 i0 D2.size
      have hD3 : D ≤ v3.heap.size := Nat.le_trans hD2 k3.size
      clear hia2 k3 hcl2' hown2 hc2 D2 hD2 hDw
      have hf1 : L.length + 5 ≤ 9223372036854775807 := by omega
      have hcv := hown3.back
      have hcvd := OwnB.back (w := v3.drew) (show OwnB v3.drew D _ L from hown3)
      obtain ⟨i0', hi9, hz0, hz1, hz2⟩ := info_parts Try.info5
      go_wp2_with fail
      go_region_with (first
        | (go_at_call 23; refine (hsum_any cb (L ++ oth) _ (show IsH v3.drew cb (L ++ oth) from hcl3) hLo).mono ?_; rintro e v4 ⟨rfl, c4⟩; have hcv4 := OwnB.back (OwnB.below (w := v3.drew) (show OwnB v3.drew D _ L from hown3) c4))
        | (go_at_call 12; refine (sum_other L _ (by omega)).mono ?_; rintro e v5 ⟨rfl, c5⟩))
      all_goals
        have E5 : Below v3.heap.size v3 v5 := by
          have h4 : Below v3.heap.size v3 v4 := ⟨c4.os, c4.tape, c4.output, c4.size, c4.block⟩
          exact h4.trans (c5.mono h4.size)
        have hia5 := hia3.below E5 hia3.lt
        have hown5 := hown3.below E5
        have hc5 : v5.cell? (a.add q) = some (.string x) := by rw [E5.cell (p := a.add q) (World.block_lt_of_cell? v3 _ hc3)]; exact hc3
        have D5 := D3.trans (E5.mono D3.size)
        have hD5 : D ≤ v5.heap.size := Nat.le_trans hD3 E5.size
        clear E5 c4 c5 hcv4 hcvd hcv hia3 hcl3 hown3 hc3 D3 hD3 hf1
        have hsm1 : L.length + x.size ≤ maxLen := by unfold maxLen; omega
        have hsm2 : L.length + x.size ≤ 140737488355328 := by omega
        go_wp2_with (at_builtin; refine Lib.wpList_append_own_string _ rfl _ _ 32 9 rfl D 5 i0' Try.underlying32 Try.underlying9 hi9 hz0 hz1 hz2 _ _ _ rfl hown5.1 x rfl hsm1 hsm2 hD5 ?_; intro vv v6 hown6 hg6 hnil6)
        have hne6 : vv ≠ .slice none 0 0 := fun h => hown5.2 (hnil6.1 h).1
        have hown6' : OwnB v6 D vv (L ++ x.data.toList) := OwnB.more hown6 hne6
        have hia6 : IsH v6 i (L ++ x.data.toList) := hia5.of_heap (hg6.block i hia5.lt (fun h => by have := (hown5.1.lt i (by first | exact h | exact h.symm)).1; omega))
        have D6 : Below w.heap.size w v6 := D5.grown hg6 D5.size (fun k hk => by have := (hown5.1.lt k hk).1; omega)
        have hD6 : D ≤ v6.heap.size := Nat.le_trans hD5 hg6.size
        have hL2 : (L ++ x.data.toList).length < 576460752303423488 := by rw [List.length_append, baList]; omega
        rw [← HF.out] at hown6' hia6 hL2
        clear hnil6 hown6 hg6 hown5 hia5 D5 hD5 hc5 hne6
        obtain ⟨g6, cap6, rfl⟩ := hown6'.slice
        obtain ⟨L2, hg2⟩ : ∃ L2, L2 = flat (xs.take (q + 1)) := ⟨_, rfl⟩
        rw [← hg2] at hown6' hia6 hL2 ⊢
        have HG := Lib.hid hg2
        clear hg2
        have hcv6 := hown6'.back
        have hcv6d := OwnB.back (w := v6.drew) (show OwnB v6.drew D _ L2 from hown6')
        go_region_with (first
          | (go_at_call 23; refine (hsum_any i L2 _ (show IsH v6.drew i L2 from hia6) hL2).mono ?_; rintro e v7 ⟨rfl, c7⟩; have hcv7 := OwnB.back (OwnB.below (w := v6.drew) (show OwnB v6.drew D _ L2 from hown6') c7))
          | (go_at_call 12; refine (sum_list L2 _ hL2).mono ?_; rintro e v8 ⟨rfl, c8⟩; have hia8 := ((show IsH v6.drew i L2 from hia6).below c7 hia6.lt).below c8 (Nat.lt_of_lt_of_le hia6.lt c7.size))
          | (go_at_call 24; refine (size_any i L2 _ hia8).mono ?_; rintro e v9 ⟨rfl, rfl⟩))
        all_goals
          have E8 : Below v6.heap.size v6 v8 := by
            have h4 : Below v6.heap.size v6 v7 := ⟨c7.os, c7.tape, c7.output, c7.size, c7.block⟩
            exact h4.trans (c8.mono h4.size)
          have hown8 := hown6'.below E8
          have D8 := D6.trans (E8.mono D6.size)
          have hD8 : D ≤ v8.heap.size := Nat.le_trans hD6 E8.size
          clear E8 c7 c8 hcv7 hcv6 hcv6d hown6' hia6 D6 hD6
          go_wp2
          go_roundw
          case rel => exact ⟨q + 1, by omega, by go_num, by rw [← HG.out]; exact hown8, by rw [← HG.out]; exact hia8, D8, hD8⟩
          case measure => simp [intOf]; omega
    · have hqq : q = xs.length := by omega
      rw [hqq, List.take_of_length_le (Nat.le_refl _)] at hown hia
      have hL2 : (flat xs).length < 576460752303423488 := by omega
      generalize flat xs = L2 at *
      have hcv6d := OwnB.back (w := wr.drew) (show OwnB wr.drew D _ L2 from hown)
      go_wp2_with fail
      go_region_with (first
        | (go_at_call 23; refine (hsum_any i L2 _ (show IsH wr.drew i L2 from hia) hL2).mono ?_; rintro e v7 ⟨rfl, c7⟩; have hcv7 := OwnB.back (OwnB.below (w := wr.drew) (show OwnB wr.drew D _ L2 from hown) c7))
        | (go_at_call 12; refine (sum_list L2 _ hL2).mono ?_; rintro e v8 ⟨rfl, c8⟩))
      all_goals
        have E8 : Below wr.heap.size wr v8 := by
          have h4 : Below wr.heap.size wr v7 := ⟨c7.os, c7.tape, c7.output, c7.size, c7.block⟩
          exact h4.trans (c8.mono h4.size)
        go_wp2
        go_ret
        exact ⟨rfl, hbel.trans (E8.mono hbel.size)⟩
end Go.Proofs.Ytdkhnklggidfpaa
