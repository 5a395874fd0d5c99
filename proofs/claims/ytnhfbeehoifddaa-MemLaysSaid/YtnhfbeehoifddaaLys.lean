/- What is written stands in the frames: what the law's call returns. Conditions: numbers that a machine holds. -/
import Derived.Test.YtnhfbeehoifddaaLym
import Derived.Test.YtnhfbeehoifddaaSpl
namespace Go.Proofs.Ytnhfbeehoifddaa
open Go.RowKit Go.Maps
set_option linter.unusedVariables false

theorem Try.info65 : (Try.prog.info? 65).map (fun i => (i.zero, i.size, i.bytes)) = some (some (.slice none 0 0), 1, 24) := by kernel_rfl
theorem owns_heap {W W' : World} {base : Nat} {gg n cc : Nat} {xs : List Value} (h : W.ownsRow base 65 1 (.slice (some ⟨gg, 0, none⟩) n cc) n xs) (e : W'.heap[gg]? = W.heap[gg]?) : W'.ownsRow base 65 1 (.slice (some ⟨gg, 0, none⟩) n cc) n xs := by
  refine ⟨h.1, ?_⟩
  rcases h.2 with ⟨e1, _⟩ | ⟨g, cap, cur, e1, hb, hg, hrest⟩
  · cases e1
  · have eg : gg = g := by injection e1 with e1; injection e1 with e1; injection e1 with e1
    subst eg
    exact .inr ⟨gg, cap, cur, e1, hb, by rw [e]; exact hg, hrest⟩
theorem owns_cell {W : World} {base : Nat} {gg n cc : Nat} {hs : List (Nat × Nat)} (h : W.ownsRow base 65 1 (.slice (some ⟨gg, 0, none⟩) n cc) n (hs.map hd)) (i : Nat) (hi : i < hs.length) : W.cell? ⟨gg, i, none⟩ = some (hd hs[i]) ∧ base ≤ gg ∧ gg < W.heap.size := by
  have hl := h.1
  rw [List.length_map, Nat.mul_one] at hl
  rcases h.2 with ⟨e, _⟩ | ⟨g, cap', cur, e, hb, hg, hnc, _, hcs, ht⟩
  · cases e
  · have eg : gg = g := by injection e with e; injection e with e; injection e with e
    subst eg
    refine ⟨?_, hb, block_lt hg⟩
    rw [cell_of_row _ _ _ _ _ _ hg]
    subst hl
    rw [Nat.mul_one] at ht
    have : (cur.toList.take hs.length)[i]? = (hs.map hd)[i]? := by rw [ht]
    rw [List.getElem?_take, if_pos hi, List.getElem?_map, List.getElem?_eq_getElem hi, Array.getElem?_toList] at this
    exact this
theorem cell_lt {W : World} {b o : Nat} {v : Value} (h : W.cell? ⟨b, o, none⟩ = some v) : b < W.heap.size := by
  rcases Nat.lt_or_ge b W.heap.size with z | z
  · exact z
  · simp [World.cell?, Array.getElem?_eq_none z] at h
theorem two_string (W : World) (b c : Int) (h : 0 ≤ b ∧ b < 256) (h2 : 0 ≤ c ∧ c < 256) : (convert 65 9 (.slice (some ⟨W.heap.size, 0, none⟩) 2 2)).run Try.prog (W.alloc (.cells #[.int .u8 b, .int .u8 c] 5)) = .ok (.string (ofL [UInt8.ofNat b.toNat, UInt8.ofNat c.toNat])) (W.alloc (.cells #[.int .u8 b, .int .u8 c] 5)) := by
  have hr : RowB 5 (W.alloc (.cells #[.int .u8 b, .int .u8 c] 5)) W.heap.size 2 [UInt8.ofNat b.toNat, UInt8.ofNat c.toNat] := by
    refine ⟨_, _, block_new W _, .inl rfl, Nat.le_refl _, rfl, ?_⟩
    have e : ((UInt8.ofNat b.toNat).toNat : Int) = b := by rw [UInt8.toNat_ofNat']; omega
    have e2 : ((UInt8.ofNat c.toNat).toNat : Int) = c := by rw [UInt8.toNat_ofNat']; omega
    simp only [List.map_cons, List.map_nil, cellB, e, e2]
    rfl
  exact hr.string (w' := W) 0 2 2 (by simp)
set_option maxRecDepth 20000 in
set_option maxHeartbeats 40000000 in
theorem lays_any (many : Int) (v : Value) (ps : List Pg) (a : Int) (s : ByteArray) (w : World) (hm : In64 many) (hps : PgOk w v ps) (ha : In64 a) (hs : s.size ≤ 140737488351232) :
    Calls Try.prog 9 #[.int .i64 many, v, .agg #[.int .i64 a, .string s]] w fun e w' => e = .returned (.bool true) ∧ Below w.heap.size w w' := by
  obtain ⟨q, np, cap0, rfl⟩ : ∃ q n cap, v = .slice q n cap := by obtain ⟨q, cap, e, _⟩ := hps.1; exact ⟨_, _, _, e⟩
  obtain ⟨wa, hwa⟩ : ∃ wa, wa = w.alloc (.cells #[.int .i64 a, .string s] 62) := ⟨_, rfl⟩
  have ba : Below w.heap.size w wa := by rw [hwa]; exact (Below.refl _ w).alloc (Nat.le_refl _) _
  have cb : wa.heap[w.heap.size]? = some (.cells #[.int .i64 a, .string s] 62 (0, 0)) := by rw [hwa]; exact block_new _ _
  have c0 : wa.cell? ⟨w.heap.size, 0, none⟩ = some (.int .i64 a) := by rw [cell_of_row _ _ _ _ _ _ cb]; rfl
  have c1 : wa.cell? ⟨w.heap.size, 1, none⟩ = some (.string s) := by rw [cell_of_row _ _ _ _ _ _ cb]; rfl
  have kf := fixed_any
  have hlt : w.heap.size < wa.heap.size := block_lt cb
  have HA := Lib.hid (And.intro hps (And.intro hwa (And.intro ba (And.intro c0 (And.intro c1 hlt)))))
  obtain ⟨NP, hNP⟩ : ∃ N, N = ps.length := ⟨_, rfl⟩
  obtain rfl : np = NP := by obtain ⟨q, cap, e, _⟩ := hps.1; injection e with _ e2; rw [e2, hNP]
  have hNP2 : np < 8796093022208 := by rw [hNP]; have := hps.2.2; omega
  have HNP := Lib.hid hNP
  by_cases h1 : 1 ≤ many ∧ many ≤ 160
  · obtain ⟨F, rfl⟩ : ∃ F : Nat, many = (F : Int) := ⟨many.toNat, by omega⟩
    have kn := new_any F wa (by omega)
    have HM := Lib.hid h1
    clear hps ba cb hwa hNP c0 c1 h1 hlt
    go_enter Try.func9, Try.ntmps9
    go_wp2_with (fail)
    rw [← HA.out.2.1]
    refine kn.mono ?_
    rintro e v1 ⟨p, rfl, g, cap, a1, b1, hp, hg⟩
    have HN := Lib.hid (And.intro a1 (And.intro b1 (And.intro hp hg)))
    clear a1 b1 hp hg kn
    go_wp2_with (fail)
    refine (kf v1).mono ?_
    rintro e v2 ⟨rfl, b2⟩
    obtain ⟨a1, b1, hp, hg⟩ := HN.out
    have HS := Lib.hid (And.intro (a1.below b2) (And.intro (b1.trans (b2.mono b1.size)) (And.intro hp hg)))
    have hF := HM.out
    have hF2 : F ≤ 160 := by omega
    clear a1 b1 hp hg b2 kf hF
    go_wp2
    go_loopw [9] (fun i wr => ∃ k : Nat, k ≤ F ∧ i = .int .i64 (k : Int) ∧ ∃ B, IsM wr p g cap F B ∧ Below wa.heap.size wa wr) (fun i _ => F - (intOf i).toNat)
    case atStart => exact ⟨0, Nat.zero_le _, rfl, _, HS.out.1, HS.out.2.1⟩
    case round =>
      obtain ⟨k, hk, rfl, B, i1, i2⟩ := hrel
      generalize wr = wo at *
      by_cases a0 : k < F
      · have hos := two_string wo (k : Int) ((k : Int) + 7) (by omega) (by omega)
        have i1' := i1.below ((Below.refl _ wo).alloc (Nat.le_refl _) (.cells #[.int .u8 (k : Int), .int .u8 ((k : Int) + 7)] 5))
        have bal : Below wo.heap.size wo (wo.alloc (.cells #[.int .u8 (k : Int), .int .u8 ((k : Int) + 7)] 5)) := (Below.refl _ wo).alloc (Nat.le_refl _) _
        have kl := lay_any p g cap F B _ i1' (k : Int) 0 (ofL [UInt8.ofNat (k : Int).toNat, UInt8.ofNat ((k : Int) + 7).toNat]) (by rw [ofL_size]; exact (by decide : (2 : Nat) < 140737488355328))
        obtain ⟨S, hS⟩ : ∃ S, S = ofL [UInt8.ofNat (k : Int).toNat, UInt8.ofNat ((k : Int) + 7).toNat] := ⟨_, rfl⟩
        rw [← hS] at kl hos
        have HI := Lib.hid (And.intro i1 (And.intro i2 bal))
        clear i1 i2 i1' hS bal
        go_wp2_with (fail)
        refine kl.mono ?_
        rintro e w4 ⟨rfl, j1, j2⟩
        obtain ⟨i1, i2, bal⟩ := HI.out
        have hb4 : Below wa.heap.size wa w4 := below_ch (i2.trans (bal.mono i2.size)) j2 (Nat.le_trans i2.size bal.size) HS.out.2.2.2
        have HJ := Lib.hid (And.intro j1 hb4)
        clear i1 i2 bal j1 j2 hb4 kl hos
        go_wp2
        refine ⟨⟨k + 1, a0, rfl, _, HJ.out.1, HJ.out.2⟩, ?_⟩
        have z := a0
        simp [intOf]; omega
      · obtain rfl : F = k := by omega
        have k5 := list_any p g cap F B wo i1
        have H4 := Lib.hid (And.intro i1 i2)
        clear i1 i2
        go_wp2_with (fail)
        refine k5.mono ?_
        rintro e w5 ⟨vw, rfl, s5, b5⟩
        have i5 := H4.out.1.below b5
        have g5 : Below wa.heap.size wa w5 := H4.out.2.trans (b5.mono H4.out.2.size)
        have g5w : Below w.heap.size w w5 := HA.out.2.2.1.trans (g5.mono HA.out.2.2.1.size)
        have k6 := write_any p g cap F B w5 i5 (fun b => b < w.heap.size) (by have := HS.out.2.2; have := HA.out.2.2.2.2.2; omega) _ ps (HA.out.1.1.below g5w) a s ha (by omega)
        have hl5 := fbytes_len B F
        obtain ⟨gw, cw, rfl⟩ : ∃ gg cc, vw = .slice (some ⟨gg, 0, none⟩) F cc := by obtain ⟨gg, cc, _, e, _⟩ := s5; rw [hl5] at e; exact ⟨gg, cc, e⟩
        have d0 : w5.cell? ⟨w.heap.size, 0, none⟩ = some (.int .i64 a) := (g5.cell HA.out.2.2.2.2.2).trans HA.out.2.2.2.1
        have d1 : w5.cell? ⟨w.heap.size, 1, none⟩ = some (.string s) := (g5.cell HA.out.2.2.2.2.2).trans HA.out.2.2.2.2.1
        have H5 := Lib.hid (And.intro i5 (And.intro g5 s5))
        clear b5 i5 g5 s5 k5 hl5 g5w
        go_wp2_with (fail)
        refine k6.mono ?_
        rintro e w6 ⟨rfl, i6, c6⟩
        have g6 : Below wa.heap.size wa w6 := below_ch H5.out.2.1 c6 H5.out.2.1.size HS.out.2.2.2
        have s6 : SL w6 (.slice (some ⟨gw, 0, none⟩) F cw) (fbytes B F) := H5.out.2.2.ch c6 (fun kk hkk => by
          obtain rfl : kk = g := hkk
          obtain ⟨cur, fr, h, _⟩ := H5.out.1.row
          exact ⟨_, _, h⟩)
        obtain ⟨B', hB'⟩ : ∃ B', B' = writeB F ps B a s.data.toList := ⟨_, rfl⟩
        rw [← hB'] at i6
        obtain ⟨E, hE⟩ : ∃ E, E = writeE F ps a s.size := ⟨_, rfl⟩
        rw [← hE]
        have k7 := list_any p g cap F B' w6 i6
        have H6 := Lib.hid (And.intro g6 (And.intro s6 (And.intro i6 (And.intro hB' hE))))
        clear k6 i6 c6 g6 s6 hB' hE d0 d1
        go_wp2_with (fail)
        refine k7.mono ?_
        rintro e w7 ⟨vn, rfl, s7, b7⟩
        have hl7 := fbytes_len B' F
        obtain ⟨gn, cn, rfl⟩ : ∃ gg cc, vn = .slice (some ⟨gg, 0, none⟩) F cc := by obtain ⟨gg, cc, _, e, _⟩ := s7; rw [hl7] at e; exact ⟨gg, cc, e⟩
        obtain ⟨b0, hb0⟩ : ∃ b0, b0 = w7.heap.size := ⟨_, rfl⟩
        have H7 := Lib.hid (And.intro (H6.out.1.trans (b7.mono H6.out.1.size)) (And.intro s7 (And.intro (H6.out.2.1.below b7) (And.intro (H6.out.2.2.1.below b7) hb0))))
        obtain ⟨w8, hw8⟩ : ∃ w8, w8 = w7.alloc (.cells #[] 65) := ⟨_, rfl⟩
        have hb1 : Below b0 w7 w8 := by rw [hw8, hb0]; exact (Below.refl _ w7).alloc (Nat.le_refl _) _
        have ho1 : w8.ownsRow b0 65 1 (.slice (some ⟨b0, 0, none⟩) 0 0) 0 (([] : List (Nat × Nat)).map hd) := by
          rw [hw8, hb0]
          exact ⟨by simp, .inr ⟨w7.heap.size, 0, #[], rfl, Nat.le_refl _, block_new _ _, Nat.le_refl _, Nat.zero_le _, by simp, by simp⟩⟩
        clear k7 s7 b7 hl7
        go_wp2
        rw [← hw8, ← hb0]
        have HW := Lib.hid (And.intro hb1 (And.intro ho1 hb0))
        clear hb1 ho1 hw8 hb0
        go_loopw [12, 13] (fun v i wr => ∃ (k gg cc : Nat) (hs : List (Nat × Nat)), k ≤ F ∧ hs.length = k ∧ i = .int .i64 (k : Int) ∧ v = .slice (some ⟨gg, 0, none⟩) k cc ∧ wr.ownsRow b0 65 1 (.slice (some ⟨gg, 0, none⟩) k cc) k (hs.map hd) ∧ RR wr b0 gg hs (frameB B) ∧ Below b0 w7 wr) (fun _ i _ => F - (intOf i).toNat)
        case atStart => exact ⟨0, b0, 0, [], Nat.zero_le _, rfl, rfl, rfl, HW.out.2.1, RR.nil _ _ _ _, HW.out.1⟩
        case round =>
          obtain ⟨k, gg, cc, hhs, hk, hlen, rfl, rfl, hown, hrr, hbw⟩ := hrel
          generalize wr = wo at *
          by_cases a1 : k < F
          · have hbw2 : Below w7.heap.size w7 wo := by rw [HW.out.2.2] at hbw; exact hbw
            have e1 := (H7.out.2.2.1.below hbw2).cell k (by rw [fbytes_len]; exact a1)
            rw [fbytes_get _ _ _ a1] at e1
            have f1 := frame_get H5.out.1.len a1
            obtain ⟨S, hS⟩ : ∃ S, S = ofL (frameB B k) := ⟨_, rfl⟩
            rw [← hS] at e1
            have z1 : S.size = 256 := by rw [hS, ofL_size]; exact f1.1
            obtain ⟨cap1, w9, hr, hrow, hb9, hs9⟩ := RowB.made wo S (by omega)
            rw [z1] at hr
            have hsl : S.data.toList = frameB B k := by rw [hS, ofL_list]
            rw [hsl] at hrow
            obtain ⟨i0, hi1, hi2, hi3, hi4⟩ := info_parts Try.info65
            have hsz : b0 ≤ wo.heap.size := by have := hbw.size; rw [HW.out.2.2]; exact this
            have hgl := fun (h : 0 < k) => (owns_cell hown 0 (by omega)).2
            have HOW : Hid (∀ j, (Value.slice (some ⟨gg, 0, none⟩) k cc).ownBlock = some j → b0 ≤ j ∧ j = gg ∧ gg < wo.heap.size) := fun j e => by
              rcases hown.2 with ⟨e2, _⟩ | ⟨g', _, _, e2, hb, hg, _⟩
              · cases e2
              · injection e2 with e2; injection e2 with e2; injection e2 with e2
                have : gg = j := by simpa [Value.ownBlock] using e
                have := block_lt hg
                subst e2
                omega
            have hown9 : w9.ownsRow b0 65 1 (.slice (some ⟨gg, 0, none⟩) k cc) k (hhs.map hd) := owns_heap hown (hb9.block gg (by
              rcases hown.2 with ⟨e2, _⟩ | ⟨g', _, _, e2, hb, hg, _⟩
              · cases e2
              · injection e2 with e2; injection e2 with e2; injection e2 with e2
                have := block_lt hg
                omega))
            have HR := Lib.hid (And.intro hlen (And.intro hown9 (And.intro hrr (And.intro hbw (And.intro hrow (And.intro hb9 (And.intro hs9 hsz)))))))
            have HI0 := Lib.hid (And.intro hi1 (And.intro hi2 (And.intro hi3 hi4)))
            clear hlen hown hrr hbw hbw2 f1 hS hsl hrow hb9 hs9 hsz hgl hown9 hi1 hi2 hi3 hi4 z1
            go_wp2_with (at_builtin; refine wpList_append_own_at _ rfl (.tmp 65) (.tmp 71) 72 rfl b0 65 i0 (.slice none 0 0) 1 24 Try.underlying72 HI0.out.1 HI0.out.2.1 HI0.out.2.2.1 HI0.out.2.2.2 rfl (by decide) (.slice (some ⟨gg, 0, none⟩) k cc) _ _ rfl (HR.out.2.1.alloc _) ⟨w9.heap.size, 0, none⟩ 1 1 [hd (wo.heap.size, cap1)] rfl rfl (cell_one_new _ _ _) (by simp [Value.oneCell', hd]) (by unfold maxLen; omega) (by omega) (by have := HR.out.2.2.2.2.2.2.1; have := HR.out.2.2.2.2.2.2.2; simp; omega) ?_; intro v' w10 hown' hgrow hnil hloc; (have HF := Lib.hid (And.intro hown' (And.intro hgrow (And.intro hnil hloc)))); clear hown' hgrow hnil hloc)
            obtain ⟨o1, o2, o3, o4⟩ := HF.out
            obtain ⟨hlen, hown9, hrr, hbw, hrow, hb9, hs9, hsz⟩ := HR.out
            obtain ⟨g', c', rfl⟩ : ∃ g' c', v' = .slice (some ⟨g', 0, none⟩) (k + 1) c' := by
              rcases o1.2 with ⟨e, _⟩ | ⟨g', c', _, e, _⟩
              · rw [e] at o3; simp at o3
              · exact ⟨g', c', e⟩
            have hbal : Below w9.heap.size w9 (w9.alloc (.cells #[.slice (some ⟨wo.heap.size, 0, none⟩) 256 cap1] 65)) := (Below.refl _ w9).alloc (Nat.le_refl _) _
            have hsal : (w9.alloc (.cells #[.slice (some ⟨wo.heap.size, 0, none⟩) 256 cap1] 65)).heap.size = w9.heap.size + 1 := by simp
            have hch : ∀ kk, kk < w9.heap.size → kk ≠ gg → w10.heap[kk]? = w9.heap[kk]? := fun kk h1 h2 =>
              (o2.block kk (by rw [hsal]; omega) (fun e => h2 (HOW.out kk e.symm).2.1)).trans (hbal.block kk h1)
            have hgg : gg < wo.heap.size := by
              have hob : (Value.slice (some ⟨gg, 0, none⟩) k cc).ownBlock = some gg := rfl
              exact (HOW.out gg hob).2.2
            have hg' : g' = gg ∨ g' = w9.heap.size + 1 := by
              rcases o4 with e | e
              · left; simpa [Value.ownBlock] using e
              · right; rw [hsal] at e; simpa [Value.ownBlock] using e
            refine ⟨⟨k + 1, g', c', hhs ++ [(wo.heap.size, cap1)], a1, by simp [hlen], rfl, rfl, ?_, ?_, ?_⟩, ?_⟩
            · rw [List.map_append]; exact o1
            · refine hrr.snoc (wo.heap.size, cap1) (fun kk h1 h2 h3 => (hch kk (by omega) h2).trans (hb9.block kk h1)) ?_ (Nat.le_refl _) hsz ?_ ?_
              · rw [hlen]; exact hrow.of_heap (hch _ (by omega) (by omega))
              · rcases hg' with e | e
                · exact .inl e
                · right; omega
              · show wo.heap.size ≠ g'
                omega
            · exact ((hbw.trans (hb9.mono hsz)).trans (hbal.mono (by omega))).grown o2 (by rw [hsal]; omega) (fun kk e => (HOW.out kk e).1)
            · have z := a1
              simp [intOf]; omega
          · obtain rfl : F = k := by omega
            have HR := Lib.hid (And.intro hlen (And.intro hown (And.intro hrr hbw)))
            clear hlen hown hrr hbw
            go_wp2
            obtain ⟨hlen, hown, hrr, hbw⟩ := HR.out
            have hhc : ∀ t (ht : t < hhs.length), wo.cell? ⟨gg, t, none⟩ = some (hd hhs[t]) ∧ b0 ≤ gg ∧ gg < wo.heap.size := fun t ht => owns_cell hown t ht
            have hF1 := HM.out
            have hgg := (hhc 0 (by omega)).2
            have HG := Lib.hid (And.intro hhc (And.intro hgg (And.intro hrr (And.intro hbw hlen))))
            clear hlen hown hrr hbw hhc hF1 hgg
            go_loopw [14] (fun i wr => ∃ j : Nat, j ≤ s.size ∧ i = .int .i64 (j : Int) ∧ (E ≠ 0 → j = 0) ∧ (∀ t (ht : t < hhs.length), wr.cell? ⟨gg, t, none⟩ = some (hd hhs[t])) ∧ RR wr b0 gg hhs (frameB (Go.Proofs.Ytnhfbeehoifddaa.wr ps a (s.data.toList.take j) B)) ∧ Below b0 w7 wr) (fun i _ => s.size - (intOf i).toNat)
            case atStart => exact ⟨0, Nat.zero_le _, rfl, fun _ => rfl, fun t ht => (HG.out.1 t ht).1, HG.out.2.2.1, HG.out.2.2.2.1⟩
            case round =>
              obtain ⟨j, hj, rfl, hEj, hhc, hrr, hbw⟩ := hrel
              generalize wr = wo2 at *
              have hwb : w.heap.size < b0 := by have := HA.out.2.2.2.2.2; have := H7.out.1.size; have := HW.out.2.2; omega
              have d0 : wo2.cell? ⟨w.heap.size, 0, none⟩ = some (.int .i64 a) := (hbw.cell hwb).trans ((H7.out.1.cell HA.out.2.2.2.2.2).trans HA.out.2.2.2.1)
              have d1 : wo2.cell? ⟨w.heap.size, 1, none⟩ = some (.string s) := (hbw.cell hwb).trans ((H7.out.1.cell HA.out.2.2.2.2.2).trans HA.out.2.2.2.2.1)
              have HB := Lib.hid (And.intro hEj (And.intro hhc (And.intro hrr (And.intro hbw hwb))))
              clear hEj hhc hrr hbw hwb
              by_cases a1 : j < s.size ∧ E = 0
              · obtain ⟨a3, rfl⟩ := a1
                obtain ⟨hEj, hhc, hrr, hbw, hwb⟩ := HB.out
                have hEE := H6.out.2.2.2.2.symm
                unfold writeE at hEE
                obtain ⟨hchk, hs4, hthere⟩ : chk F ps = 0 ∧ s.size ≤ 4096 ∧ thereE ps 2 a s.size = 0 := by
                  split at hEE
                  · rename_i q1
                    split at hEE
                    · exact ⟨q1, by assumption, hEE⟩
                    · cases hEE
                  · rename_i q1
                    exact absurd hEE q1
                have hbad := there_bad _ _ hthere j a3
                have hin := pg_in hchk hbad
                have h00 := (pg_in hchk (there_bad _ _ hthere 0 (by omega))).1
                obtain ⟨an, rfl⟩ : ∃ an : Nat, a = (an : Int) := ⟨a.toNat, by omega⟩
                have hbww : Below w.heap.size w wo2 := (HA.out.2.2.1.trans (H7.out.1.mono HA.out.2.2.1.size)).trans (hbw.mono (by omega))
                have htab := HA.out.1.1.below hbww
                obtain ⟨x, hx⟩ : ∃ x, x = (an + j) / 256 := ⟨_, rfl⟩
                have hx2 : (((an : Int) + (j : Int)) / 256).toNat = x := by omega
                obtain ⟨b, o, e1, c1, c2⟩ := tab_cells htab (k := x) (by rw [← hx2]; exact hin.2.1)
                have epg : pg ps ((an : Int) + (j : Int)) = ps.getD x (0, 0) := by unfold pg; rw [hx2]
                obtain ⟨pp, hpp⟩ : ∃ pp, pp = ps.getD x (0, 0) := ⟨_, rfl⟩
                rw [← hpp] at c1 c2 epg
                obtain ⟨f, r⟩ := pp
                have hR := (bad_zero hbad).2.2
                rw [epg] at hin hR
                dsimp only at c1 c2 hin hR
                subst e1
                have hxn2 : (an + j) / 256 < np := by rw [HNP.out]; omega
                have hx3 : ((an : Int) + (j : Int)) / 256 < (np : Int) := by omega
                have hsum : an + j < 2251799813685248 := by omega
                rw [hx] at c1 c2
                obtain ⟨fn, rfl⟩ : ∃ fn : Nat, f = (fn : Int) := ⟨f.toNat, by omega⟩
                obtain ⟨rn, rfl⟩ : ∃ rn : Nat, r = (rn : Int) := ⟨r.toNat, by omega⟩
                have hfn : fn < F := by omega
                have hrn : rn / 2 % 2 = 1 := by
                  unfold hasR at hR
                  simpa using hR
                have hrn2 : (rn : Int) / 2 % 2 = 1 := by omega
                have hx0 : 0 ≤ ((an : Int) + (j : Int)) / 256 := by omega
                have hrt : (wrap64 ((rn : Int) / 2)).tmod 2 = 1 := by
                  have hw : wrap64 ((rn : Int) / 2) = (rn : Int) / 2 := by unfold wrap64; omega
                  rw [hw, Int.tmod_eq_emod_of_nonneg (by omega)]
                  exact hrn2
                have hfh : fn < hhs.length := by rw [HG.out.2.2.2.2]; exact hfn
                have e2 := hhc fn hfh
                have hrow := hrr.row fn hfh
                have hBl : (frameB (Go.Proofs.Ytnhfbeehoifddaa.wr ps (an : Int) (s.data.toList.take j) B) fn).length = 256 := (frame_get (by rw [wr_len]; exact H5.out.1.len) hfn).1
                have hm256 : (an + j) % 256 < 256 := by omega
                have hfree := hrow.1.free ((an + j) % 256) (by rw [hBl]; exact hm256)
                obtain ⟨ov, hov⟩ : ∃ ov : Int, wo2.cell? ⟨hhs[fn].1, (an + j) % 256, none⟩ = some (.int .u8 ov) := ⟨_, hrow.1.cell ((an + j) % 256) (by rw [hBl]; exact hm256)⟩
                have hput := hrr.put fn hfh ((an + j) % 256) (by rw [hBl]; exact hm256) (s.data.toList.getD j 0)
                have hsj : s.data.toList.getD j 0 = s[j] := by
                  rw [List.getD_eq_getElem?_getD, List.getElem?_eq_getElem (by rw [baList]; exact a3)]
                  rfl
                have hpos : pos ps ((an : Int) + (j : Int)) = 256 * fn + (an + j) % 256 := by
                  unfold pos
                  rw [epg]
                  dsimp only
                  omega
                have hput2 : RR (wo2.setCell ⟨hhs[fn].1, (an + j) % 256, none⟩ (.int .u8 (s[j].toNat : Int))) b0 gg hhs (frameB (Go.Proofs.Ytnhfbeehoifddaa.wr ps (an : Int) (s.data.toList.take (j + 1)) B)) := by
                  have e : frameB (Go.Proofs.Ytnhfbeehoifddaa.wr ps (an : Int) (s.data.toList.take (j + 1)) B) = fun i => if i = fn then (frameB (Go.Proofs.Ytnhfbeehoifddaa.wr ps (an : Int) (s.data.toList.take j) B) fn).set ((an + j) % 256) (s.data.toList.getD j 0) else frameB (Go.Proofs.Ytnhfbeehoifddaa.wr ps (an : Int) (s.data.toList.take j) B) i := by
                    funext i
                    rw [wr_take _ _ _ _ _ (by rw [baList]; exact a3), frameB_set, hpos]
                    have q1 : (256 * fn + (an + j) % 256) / 256 = fn := by omega
                    have q2 : (256 * fn + (an + j) % 256) % 256 = (an + j) % 256 := by omega
                    rw [q1, q2]
                    by_cases z : i = fn
                    · rw [if_pos z, if_pos z.symm, z]
                    · rw [if_neg z, if_neg (fun q => z q.symm)]
                  rw [e]
                  have q := hput
                  rw [hsj] at q ⊢
                  exact q
                obtain ⟨X, hX⟩ : ∃ X, X = hhs[fn].1 := ⟨_, rfl⟩
                obtain ⟨CX, hCX⟩ : ∃ X, X = hhs[fn].2 := ⟨_, rfl⟩
                unfold hd at e2
                rw [← hX, ← hCX] at e2
                rw [← hX] at hput2 hfree hov
                have hXg : X ≠ gg ∧ b0 ≤ X := by rw [hX]; exact ⟨hrow.2.2, hrow.2.1⟩
                have HT := Lib.hid (And.intro hput2 (And.intro hXg (And.intro hhc hbw)))
                have hm0 : 0 ≤ ((an : Int) + (j : Int)) % 256 := by omega
                have hm1 : ((an : Int) + (j : Int)) % 256 < 256 := by omega
                have u0 : wo2.drew.cell? ⟨w.heap.size, 0, none⟩ = some (.int .i64 (an : Int)) := d0
                have u1 : wo2.drew.cell? ⟨w.heap.size, 1, none⟩ = some (.string s) := d1
                have u2 : wo2.drew.cell? ⟨b, o + (an + j) / 256 * 2, none⟩ = some (.int .i64 (fn : Int)) := c1
                have u3 : wo2.drew.cell? ⟨gg, fn, none⟩ = some (.slice (some ⟨X, 0, none⟩) 256 CX) := e2
                have u5 : wo2.drew.cell? ⟨X, (an + j) % 256, none⟩ = some (.int .u8 ov) := hov
                have u4 : wo2.drew.frozen? ⟨X, (an + j) % 256, none⟩ = false := hfree
                clear hEj hhc hrr hbw hwb hEE hthere hbad h00 hbww htab hx hx2 epg hpp hR hfh hrow hBl hput hsj hpos hput2 hX hCX hXg hin hrn hfree hov
                go_wp2
                have hq1 : IntKind.i64.wrap (((an : Int) + (j : Int)).tdiv 256) = (((an + j) / 256 : Nat) : Int) := by
                  rw [Int.tdiv_eq_ediv_of_nonneg (by omega), wrap_in (by omega)]; omega
                have hq2 : ((an : Int) + (j : Int)).tmod 256 = (((an + j) % 256 : Nat) : Int) := by
                  rw [Int.tmod_eq_emod_of_nonneg (by omega)]; omega
                have hq3 : IntKind.i64.wrap ((((an + j) % 256 : Nat)) : Int) = (((an + j) % 256 : Nat) : Int) := wrap_in (by omega)
                generalize hQ : (an + j) / 256 = Q at *
                generalize hM : (an + j) % 256 = M at *
                have hmI : (M : Int) < 256 := by omega
                go_still_tail 16, (by kernel_rfl)
                change wpList _ _ _ _ _ wo2.drew
                obtain ⟨wd, hwd⟩ : ∃ wd, wd = wo2.drew := ⟨_, rfl⟩
                rw [← hwd] at u0 u1 u2 u3 u4 u5 ⊢
                have HWD := Lib.hid hwd
                clear hwd
                go_wp2
                obtain ⟨hput2, hXg, hhc, hbw⟩ := HT.out
                have hwd := HWD.out
                have hdr : Below b0 w7 wd := by rw [hwd]; exact ⟨hbw.os, hbw.tape, hbw.output, hbw.size, hbw.block⟩
                refine ⟨⟨j + 1, a3, rfl, fun h => absurd rfl h, fun t ht => ?_, ?_, ?_⟩, ?_⟩
                · refine (World.cell?_of_block (Below.heap_setCell _ _ _ _ (fun e => hXg.1 e.symm))).trans ?_
                  rw [hwd]
                  exact hhc t ht
                · rw [hwd]
                  exact hput2.same (fun _ _ _ _ => rfl)
                · exact hdr.setCell (p := ⟨X, M, none⟩) hXg.2 _
                · have z := a3
                  simp [intOf]; omega
              · obtain ⟨hEj, hhc, hrr, hbw, hwb⟩ := HB.out
                have hfin : RR wo2 b0 gg hhs (frameB B') := by
                  rw [H6.out.2.2.2.1]
                  by_cases hE0 : E = 0
                  · have hjs : j = s.size := by omega
                    have e1 : writeE F ps a s.size = 0 := by rw [← H6.out.2.2.2.2]; exact hE0
                    unfold writeB
                    rw [if_pos (by rw [baList]; exact e1)]
                    rw [List.take_of_length_le (by rw [baList]; omega)] at hrr
                    exact hrr
                  · have e1 : ¬ writeE F ps a s.size = 0 := by rw [← H6.out.2.2.2.2]; exact hE0
                    unfold writeB
                    rw [if_neg (by rw [baList]; exact e1)]
                    rw [hEj hE0] at hrr
                    exact hrr
                have HC := Lib.hid (And.intro hhc (And.intro hfin hbw))
                clear hEj hhc hrr hbw hwb hfin
                have hstop : (decide ((j : Int) < (s.size : Int)) && (E == 0)) = false := by
                  by_cases z : j < s.size
                  · have : ¬ E = 0 := fun e => a1 ⟨z, e⟩
                    simp [this]
                  · simp; omega
                by_cases z : j < s.size
                · have z2 : (E == 0) = false := by
                    have : ¬ E = 0 := fun e => a1 ⟨z, e⟩
                    simpa using this
                  go_wp2
                  generalize wo2 = wz at *
                  go_loopw [16] (fun i wr => ∃ k : Nat, k ≤ F ∧ i = .int .i64 (k : Int) ∧ Below wz.heap.size wz wr) (fun i _ => F - (intOf i).toNat)
                  case atStart => exact ⟨0, Nat.zero_le _, rfl, Below.refl _ _⟩
                  case round =>
                    obtain ⟨k, hk2, rfl, hbz⟩ := hrel
                    have hbw : Below b0 w7 wr := HC.out.2.2.trans (hbz.mono (by have := HC.out.2.2.size; rw [HW.out.2.2]; exact this))
                    by_cases a2 : k < F
                    · have hkh : k < hhs.length := by rw [HG.out.2.2.2.2]; exact a2
                      have e1 := (H7.out.2.1.below (by rw [HW.out.2.2] at hbw; exact hbw)).cell k (by rw [fbytes_len]; exact a2)
                      rw [fbytes_get _ _ _ a2] at e1
                      have hggz : gg < wz.heap.size := by
                        have h1 := HC.out.1 k hkh
                        exact cell_lt h1
                      have e2 : wr.cell? ⟨gg, k, none⟩ = some (hd hhs[k]) := (hbz.cell hggz).trans (HC.out.1 k hkh)
                      have hrow := (HC.out.2.1.row k hkh).1
                      have hcv : ∀ n, (convert 65 9 (.slice (some ⟨hhs[k].1, 0, none⟩) 256 hhs[k].2)).run Try.prog (wr.drewN n) = .ok (.string (ofL (frameB B' k))) (wr.drewN n) := fun n => by
                        have hl := (frame_get H7.out.2.2.2.1.len a2).1
                        have h1 : RowB 5 (wr.drewN n) hhs[k].1 hhs[k].2 (frameB B' k) := hrow.of_heap ((below_drewN hbz n).block _ hrow.lt)
                        have h2 := h1.string (w' := wr) 0 256 hhs[k].2 (by omega)
                        rw [List.drop_zero, List.take_of_length_le (by omega)] at h2
                        exact h2
                      unfold hd at e2
                      generalize hhs[k] = hk3 at e2 hcv
                      obtain ⟨X, CX⟩ := hk3
                      dsimp only at e2 hcv
                      generalize ofL (frameB B' k) = S1 at e1 hcv
                      have HZ := Lib.hid (And.intro hbz hbw)
                      clear hbz hbw hrow hkh hggz
                      go_wp2
                      refine wp_region_quiet_lit (by kernel_rfl) (by kernel_rfl) ?_
                      repeat (go_big_quiet_step (fail))
                      refine wpQuiet_nil ?_
                      intro _ hw'
                      obtain ⟨nq, hw''⟩ := hw'
                      subst hw''
                      go_wp2
                      refine ⟨⟨k + 1, a2, rfl, below_drewN HZ.out.1 nq⟩, ?_⟩
                      have z := a2
                      simp [intOf]; omega
                    · obtain rfl : F = k := by omega
                      have HZ := Lib.hid hbw
                      clear hbz hbw
                      go_wp2
                      go_ret
                      exact ⟨rfl, (HA.out.2.2.1.trans (H7.out.1.mono HA.out.2.2.1.size)).trans (HZ.out.mono (by have := HA.out.2.2.2.2.2; have := H7.out.1.size; have := HW.out.2.2; omega))⟩
                · obtain rfl : j = s.size := by omega
                  go_wp2
                  generalize wo2 = wz at *
                  go_loopw [16] (fun i wr => ∃ k : Nat, k ≤ F ∧ i = .int .i64 (k : Int) ∧ Below wz.heap.size wz wr) (fun i _ => F - (intOf i).toNat)
                  case atStart => exact ⟨0, Nat.zero_le _, rfl, Below.refl _ _⟩
                  case round =>
                    obtain ⟨k, hk2, rfl, hbz⟩ := hrel
                    have hbw : Below b0 w7 wr := HC.out.2.2.trans (hbz.mono (by have := HC.out.2.2.size; rw [HW.out.2.2]; exact this))
                    by_cases a2 : k < F
                    · have hkh : k < hhs.length := by rw [HG.out.2.2.2.2]; exact a2
                      have e1 := (H7.out.2.1.below (by rw [HW.out.2.2] at hbw; exact hbw)).cell k (by rw [fbytes_len]; exact a2)
                      rw [fbytes_get _ _ _ a2] at e1
                      have hggz : gg < wz.heap.size := by
                        have h1 := HC.out.1 k hkh
                        exact cell_lt h1
                      have e2 : wr.cell? ⟨gg, k, none⟩ = some (hd hhs[k]) := (hbz.cell hggz).trans (HC.out.1 k hkh)
                      have hrow := (HC.out.2.1.row k hkh).1
                      have hcv : ∀ n, (convert 65 9 (.slice (some ⟨hhs[k].1, 0, none⟩) 256 hhs[k].2)).run Try.prog (wr.drewN n) = .ok (.string (ofL (frameB B' k))) (wr.drewN n) := fun n => by
                        have hl := (frame_get H7.out.2.2.2.1.len a2).1
                        have h1 : RowB 5 (wr.drewN n) hhs[k].1 hhs[k].2 (frameB B' k) := hrow.of_heap ((below_drewN hbz n).block _ hrow.lt)
                        have h2 := h1.string (w' := wr) 0 256 hhs[k].2 (by omega)
                        rw [List.drop_zero, List.take_of_length_le (by omega)] at h2
                        exact h2
                      unfold hd at e2
                      generalize hhs[k] = hk3 at e2 hcv
                      obtain ⟨X, CX⟩ := hk3
                      dsimp only at e2 hcv
                      generalize ofL (frameB B' k) = S1 at e1 hcv
                      have HZ := Lib.hid (And.intro hbz hbw)
                      clear hbz hbw hrow hkh hggz
                      go_wp2
                      refine wp_region_quiet_lit (by kernel_rfl) (by kernel_rfl) ?_
                      repeat (go_big_quiet_step (fail))
                      refine wpQuiet_nil ?_
                      intro _ hw'
                      obtain ⟨nq, hw''⟩ := hw'
                      subst hw''
                      go_wp2
                      refine ⟨⟨k + 1, a2, rfl, below_drewN HZ.out.1 nq⟩, ?_⟩
                      have z := a2
                      simp [intOf]; omega
                    · obtain rfl : F = k := by omega
                      have HZ := Lib.hid hbw
                      clear hbz hbw
                      go_wp2
                      go_ret
                      exact ⟨rfl, (HA.out.2.2.1.trans (H7.out.1.mono HA.out.2.2.1.size)).trans (HZ.out.mono (by have := HA.out.2.2.2.2.2; have := H7.out.1.size; have := HW.out.2.2; omega))⟩
  · have kn := new_no many wa h1
    clear hps ba cb hwa hNP c0 c1 hlt
    go_enter Try.func9, Try.ntmps9
    go_wp2_with (fail)
    rw [← HA.out.2.1]
    refine kn.mono ?_
    rintro e _ ⟨rfl, rfl⟩
    go_wp2_with (fail)
    refine (kf wa).mono ?_
    rintro e v2 ⟨rfl, b2⟩
    go_wp2
    go_ret
    exact ⟨rfl, HA.out.2.2.1.trans (b2.mono HA.out.2.2.1.size)⟩
end Go.Proofs.Ytnhfbeehoifddaa
