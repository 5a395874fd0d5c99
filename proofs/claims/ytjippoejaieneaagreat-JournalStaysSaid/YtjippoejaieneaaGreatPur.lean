/- What an extent's calls keep: nothing of the program's memory. No conditions. -/
import Derived.Test.YtjippoejaieneaaGreatWrt
namespace Go.Proofs.YtjippoejaieneaaGreat
open Go.RowKit Go.Maps Go.Lib
set_option linter.unusedVariables false

theorem outL_cons (a : Int) (c : Bk) (r : List Bk) : outL a (c :: r) = if (c.at' : Int) = a then r else c :: outL a r := by
  by_cases q : (c.at' : Int) = a
  · rw [if_pos q]
    unfold outL posL
    rw [if_pos q, if_pos (by simp)]; rfl
  · rw [if_neg q]
    unfold outL
    have e : posL a (c :: r) = posL a r + 1 := by show (if (c.at' : Int) = a then 0 else posL a r + 1) = _; rw [if_neg q]
    rw [e]
    by_cases k : posL a r < r.length
    · rw [if_pos k, if_pos (by simp; omega)]; rfl
    · rw [if_neg k, if_neg (by simp; omega)]
theorem outL_mem {a : Int} {b : Bk} : ∀ {l : List Bk}, (l.map Bk.at').Nodup → b ∈ outL a l → b ∈ l ∧ (b.at' : Int) ≠ a
  | [], _, h => by simp [outL, posL] at h
  | c :: r, nd, h => by
    rw [outL_cons] at h
    rw [List.map_cons, List.nodup_cons] at nd
    by_cases q : (c.at' : Int) = a
    · rw [if_pos q] at h
      refine ⟨List.mem_cons_of_mem _ h, fun e => nd.1 ?_⟩
      have : c.at' = b.at' := by omega
      rw [this]; exact List.mem_map_of_mem h
    · rw [if_neg q] at h
      rcases List.mem_cons.1 h with h | h
      · subst h; exact ⟨List.mem_cons_self, q⟩
      · obtain ⟨h1, h2⟩ := outL_mem nd.2 h
        exact ⟨List.mem_cons_of_mem _ h1, h2⟩
theorem outL_sub (a : Int) (l : List Bk) : (outL a l).Sublist l := by
  unfold outL; split
  · exact List.eraseIdx_sublist _ _
  · exact List.Sublist.refl _
theorem cutL_sub (m : Nat) (l : List Bk) : (cutL m l).Sublist l := by
  unfold cutL; split
  · exact List.eraseIdx_sublist _ _
  · exact List.Sublist.refl _
theorem keepL_mem {m : Nat} {l : List Bk} {b c : Bk} (nd : (l.map Bk.at').Nodup) (h : c ∈ keepL m l b) : c = b ∨ (c ∈ l ∧ c.at' ≠ b.at') := by
  have h1 := (cutL_sub m _).mem h
  rcases List.mem_append.1 h1 with h1 | h1
  · obtain ⟨h2, h3⟩ := outL_mem nd h1
    exact .inr ⟨h2, fun e => h3 (by rw [e])⟩
  · exact .inl (List.mem_singleton.1 h1)
theorem keepL_nd {m : Nat} {l : List Bk} {b : Bk} (nd : (l.map Bk.at').Nodup) : ((keepL m l b).map Bk.at').Nodup := by
  have h1 : ((outL (b.at' : Int) l ++ [b]).map Bk.at').Nodup := by
    rw [List.map_append, List.nodup_append]
    refine ⟨((outL_sub _ l).map _).nodup nd, by simp, fun x hx y hy => ?_⟩
    obtain ⟨c, hc, rfl⟩ := List.mem_map.1 hx
    have hy : y = b.at' := by simpa using hy
    obtain ⟨_, h3⟩ := outL_mem nd hc
    intro e
    exact h3 (by rw [e, hy])
  exact ((cutL_sub m _).map _).nodup h1
theorem keepL_len {m : Nat} {l : List Bk} {b : Bk} (h : l.length ≤ m) : (keepL m l b).length ≤ m := by
  have h1 := outL_len (b.at' : Int) l
  unfold keepL cutL
  split
  · rename_i q
    rw [List.length_eraseIdx, if_pos (by omega)]
    simp at q ⊢; omega
  · omega

/-! ### what is known of an extent and its disk -/
structure Good (S : St) (V : Dv) : Prop where
  ok : V.ok
  fit : Fit S V
  nd : (V.l.map Bk.at').Nodup
  coh : S.dead = false → Coh S V
theorem Good.cnt {S S' : St} {V : Dv} (h : Good S V) (hc : S'.count = S.count) (hco : S'.dead = false → Coh S' V) : Good S' V := ⟨h.ok, ⟨by rw [hc]; exact h.fit.1, by rw [hc]; exact h.fit.2⟩, h.nd, hco⟩
theorem coh_same {S S' : St} {V : Dv} (h : Coh S V) (e : ∀ j, V.first ≤ j → j < V.first + V.cnt → S'.one full j = S.one full j) : Coh S' V := by
  intro b hb
  obtain ⟨h1, h2, h3, h4⟩ := h b hb
  have : sct S' V (b.at' : Int) = sct S V (b.at' : Int) := e _ (by omega) (by rw [Int.toNat_natCast]; omega)
  rw [this]
  exact ⟨h1, h2, h3, h4⟩
theorem keep_coh {S : St} {V : Dv} (h : Coh S V) (nd : (V.l.map Bk.at').Nodup) {b : Bk} (hb : b.at' < V.cnt ∧ parE (sct S V (b.at' : Int)) = 0 ∧ b.data = parD (sct S V (b.at' : Int)) ∧ b.st = parN (sct S V (b.at' : Int))) (n : Nat) :
    Coh S { V with l := keepL V.most V.l b, mis := n } := by
  intro c hc
  rcases keepL_mem nd hc with rfl | ⟨h1, _⟩
  · exact hb
  · exact h c h1
theorem Good.read {S : St} {V : Dv} (h : Good S V) (i : Int) : Good S (rdV S V i) := by
  unfold rdV
  split
  · exact h
  · rename_i hz
    have hz : refE S V i = 0 := by simpa using hz
    obtain ⟨hdd, h0, hi⟩ := refE_ok hz
    split
    · rename_i hp
      refine ⟨⟨h.ok.cnt, h.ok.hi, h.ok.most, keepL_len h.ok.len⟩, h.fit, keepL_nd h.nd, fun hd => ?_⟩
      have := keep_coh (h.coh hd) h.nd (b := bkOf S V i) (by
        have e : (((bkOf S V i).at' : Nat) : Int) = i := by show ((i.toNat : Nat) : Int) = i; omega
        rw [e]
        exact ⟨by show i.toNat < V.cnt; omega, hp, rfl, rfl⟩) (misOf V i)
      exact this
    · exact ⟨⟨h.ok.cnt, h.ok.hi, h.ok.most, h.ok.len⟩, h.fit, h.nd, h.coh⟩
theorem rdV_cnt (S : St) (V : Dv) (i : Int) : (rdV S V i).first = V.first ∧ (rdV S V i).cnt = V.cnt ∧ (rdV S V i).most = V.most := by
  unfold rdV; split
  · exact ⟨rfl, rfl, rfl⟩
  · split <;> exact ⟨rfl, rfl, rfl⟩
theorem wrV_cnt (S : St) (V : Dv) (i : Int) (d : Bts) (n : Int) : (wrV S V i d n).first = V.first ∧ (wrV S V i d n).cnt = V.cnt ∧ (wrV S V i d n).most = V.most ∧ (wrV S V i d n).mis = V.mis := by
  unfold wrV; split <;> exact ⟨rfl, rfl, rfl, rfl⟩
/-- a change in which the power does not go leaves the sectors as they are read -/
theorem change_one {S : St} (h : S.change.2 = 0) (f : Nat → Nat) (j : Nat) : S.change.1.one f j = S.one f j ∧ S.change.1.dead = S.dead ∧ S.change.1.wr = S.wr ∧ S.change.1.safe = S.safe := by
  unfold St.change at h ⊢
  split
  · exact ⟨rfl, rfl, rfl, rfl⟩
  · split
    · rename_i h1 h2; rw [if_neg h1, if_pos h2] at h; cases h
    · exact ⟨rfl, rfl, rfl, rfl⟩
theorem change_dead {S : St} (h : S.change.2 ≠ 0) : S.change.1.dead = true ∧ S.change.2 = 2 := by
  unfold St.change at h ⊢
  split
  · rename_i h1; rw [if_pos h1] at h; exact absurd rfl h
  · split
    · exact ⟨rfl, rfl⟩
    · rename_i h1 h2; rw [if_neg h1, if_neg h2] at h; exact absurd rfl h
theorem one_put {S : St} (h : S.ok) {i : Nat} {s : Bts} (hi : i < S.count) (hs : s.length = 128) (j : Nat) : (S.put i s).one full j = if j = i then s else S.one full j := by
  by_cases e : j = i
  · subst e
    rw [if_pos rfl]
    exact one_full_some (h.put hi hs) (by show (if j = j then some s else _) = _; rw [if_pos rfl]) hi
  · rw [if_neg e]
    unfold St.one
    have : (S.put i s).wr j = S.wr j := by show (if j = i then some s else S.wr j) = _; rw [if_neg e]
    rw [this]; rfl
theorem calm_one {S : St} (h : S.ok) (a b j : Nat) (hj : j < S.count) : (S.calm a b).one full j = S.one full j := by
  have hs := calm_safe h a b j hj
  by_cases q : a ≤ j ∧ j < b
  · have e : (S.calm a b).wr j = none := by show (if a ≤ j ∧ j < b then none else S.wr j) = none; rw [if_pos q]
    rw [one_none e, hs, if_pos q]
  · have e : (S.calm a b).wr j = S.wr j := by show (if a ≤ j ∧ j < b then none else S.wr j) = _; rw [if_neg q]
    unfold St.one
    rw [e, hs, if_neg q]
/-- a write that is answered OK, its sectors -/
theorem write_ok {S : St} (ho : S.ok) {V : Dv} (hf : Fit S V) (hdd : S.dead = false) {i : Int} (h0 : 0 ≤ i) (hi : i < (V.cnt : Int)) {s : Bts} (hs : s.length = 128) :
    S.write ((V.first : Int) + i) s = (S.put (V.first + i.toNat) s).change := by
  unfold Fit at hf
  unfold St.write
  rw [hdd, if_neg (by simp), if_neg (by omega), if_neg (by omega)]
  congr 2; omega
theorem wrS_cases {S : St} (ho : S.ok) {V : Dv} (hf : Fit S V) (i : Int) (d : Bts) (n : Int) :
    (wrE S V i d n = 0 ∧ refE S V i = 0 ∧ bytE d n = 0 ∧ (wrS S V i d n).dead = false ∧ (wrS S V i d n).count = S.count ∧ (wrS S V i d n).ok ∧ ∀ j, (wrS S V i d n).one full j = if j = V.first + i.toNat then blkB d n else S.one full j) ∨
    (wrE S V i d n ≠ 0 ∧ wrS S V i d n = S) ∨ (wrE S V i d n = 2 ∧ (wrS S V i d n).dead = true ∧ (wrS S V i d n).count = S.count ∧ (wrS S V i d n).ok) := by
  by_cases hz : refE S V i = 0
  · by_cases hb : bytE d n = 0
    · obtain ⟨hdd, h0, hi⟩ := refE_ok hz
      have hl := blkB_len n (bytE_ok hb).1
      have e1 : wrE S V i d n = (S.write ((V.first : Int) + i) (blkB d n)).2 := by unfold wrE; rw [if_neg (by simpa using hz), if_neg (by simpa using hb)]
      have e2 : wrS S V i d n = (S.write ((V.first : Int) + i) (blkB d n)).1 := by unfold wrS; rw [if_neg (by rintro (z | z); exact z hz; exact z hb)]
      rw [write_ok ho hf hdd h0 hi hl] at e1 e2
      have hcn : V.first + i.toNat < S.count := by unfold Fit at hf; omega
      have hpo := ho.put hcn hl
      have hco := hpo.change
      rw [e1, e2]
      by_cases q : (S.put (V.first + i.toNat) (blkB d n)).change.2 = 0
      · refine .inl ⟨q, hz, hb, ?_, hco.2, hco.1, fun j => ?_⟩
        · rw [(change_one q full 0).2.1]; exact hdd
        · rw [(change_one q full j).1, one_put ho hcn hl]
      · exact .inr (.inr ⟨(change_dead q).2, (change_dead q).1, hco.2, hco.1⟩)
    · refine .inr (.inl ⟨?_, by unfold wrS; rw [if_pos (.inr hb)]⟩)
      unfold wrE; rw [if_neg (by simpa using hz), if_pos hb]; exact hb
  · refine .inr (.inl ⟨?_, by unfold wrS; rw [if_pos (.inl hz)]⟩)
    unfold wrE; rw [if_pos hz]; exact hz
theorem sct_of {S S' : St} {V : Dv} {i : Int} (e : S'.one full (V.first + i.toNat) = S.one full (V.first + i.toNat)) : sct S' V i = sct S V i := e
theorem Good.write {S : St} (ho : S.ok) {V : Dv} (h : Good S V) (i : Int) (d : Bts) (n : Int) : Good (wrS S V i d n) (wrV S V i d n) ∧ (wrS S V i d n).ok ∧ (wrS S V i d n).count = S.count := by
  rcases wrS_cases ho h.fit i d n with ⟨h1, hz, hb, h2, h3, h4, h5⟩ | ⟨h1, h2⟩ | ⟨h1, h2, h3, h4⟩
  · obtain ⟨hdd, h0, hi⟩ := refE_ok hz
    obtain ⟨hdl, hst⟩ := bytE_ok hb
    have eV : wrV S V i d n = { V with l := keepL V.most V.l ⟨i.toNat, padB d, n⟩ } := by unfold wrV; rw [if_pos h1]
    rw [eV]
    refine ⟨⟨⟨h.ok.cnt, h.ok.hi, h.ok.most, keepL_len h.ok.len⟩, ⟨by rw [h3]; exact h.fit.1, by rw [h3]; exact h.fit.2⟩, keepL_nd h.nd, fun _ => ?_⟩, h4, h3⟩
    have hco := h.coh hdd
    intro c hc
    rcases keepL_mem h.nd hc with rfl | ⟨hm, hne⟩
    · have e : sct (wrS S V i d n) { V with l := keepL V.most V.l ⟨i.toNat, padB d, n⟩ } (((⟨i.toNat, padB d, n⟩ : Bk).at' : Nat) : Int) = blkB d n := by
        show (wrS S V i d n).one full (V.first + ((i.toNat : Nat) : Int).toNat) = _
        rw [Int.toNat_natCast, h5, if_pos rfl]
      rw [e]
      exact ⟨by show i.toNat < V.cnt; omega, par_blk hdl hst, (parD_blk hdl hst).symm, (parN_blk hdl hst).symm⟩
    · have hne : c.at' ≠ i.toNat := hne
      have e : sct (wrS S V i d n) { V with l := keepL V.most V.l ⟨i.toNat, padB d, n⟩ } (c.at' : Int) = sct S V (c.at' : Int) := by
        show (wrS S V i d n).one full (V.first + ((c.at' : Nat) : Int).toNat) = S.one full (V.first + ((c.at' : Nat) : Int).toNat)
        rw [Int.toNat_natCast, h5, if_neg (by omega)]
      rw [e]
      exact hco c hm
  · have eV : wrV S V i d n = V := by unfold wrV; rw [if_neg h1]
    rw [eV, h2]; exact ⟨h, ho, rfl⟩
  · have eV : wrV S V i d n = V := by unfold wrV; rw [if_neg (by omega)]
    rw [eV]; exact ⟨h.cnt h3 (fun z => by rw [h2] at z; cases z), h4, h3⟩
theorem flush_cases {S : St} (ho : S.ok) {V : Dv} (hk : V.ok) (hf : Fit S V) :
    (S.dead = true ∧ S.flush (V.first : Int) (V.cnt : Int) = (S, 2)) ∨
    (S.dead = false ∧ (S.flush (V.first : Int) (V.cnt : Int)).2 = 0 ∧ S.change.2 = 0 ∧ (S.flush (V.first : Int) (V.cnt : Int)).1 = S.change.1.calm V.first (V.first + V.cnt) ∧ (S.flush (V.first : Int) (V.cnt : Int)).1.dead = false ∧ ∀ j, j < S.count → (S.flush (V.first : Int) (V.cnt : Int)).1.one full j = S.one full j) ∨
    (S.dead = false ∧ (S.flush (V.first : Int) (V.cnt : Int)).2 = 2 ∧ (S.flush (V.first : Int) (V.cnt : Int)).1.dead = true ∧ S.change.2 ≠ 0) := by
  unfold Fit at hf
  have hkc := hk.cnt
  cases hdd : S.dead with
  | true => exact .inl ⟨rfl, by unfold St.flush; rw [if_pos hdd]⟩
  | false =>
    have e : S.flush (V.first : Int) (V.cnt : Int) = if S.change.2 = 0 then (S.change.1.calm V.first (V.first + V.cnt), 0) else S.change := by
      unfold St.flush; rw [hdd, if_neg (by simp), if_neg (by omega)]; simp only [Int.toNat_natCast]
    rw [e]
    by_cases q : S.change.2 = 0
    · rw [if_pos q]
      have hc := ho.change
      refine .inr (.inl ⟨rfl, rfl, q, rfl, ?_, fun j hj => ?_⟩)
      · show S.change.1.dead = false
        rw [(change_one q full 0).2.1]; exact hdd
      · show (S.change.1.calm V.first (V.first + V.cnt)).one full j = _
        rw [calm_one hc.1 _ _ j (by rw [hc.2]; exact hj), (change_one q full j).1]
    · rw [if_neg q]
      exact .inr (.inr ⟨rfl, (change_dead q).2, (change_dead q).1, q⟩)
theorem Good.flush {S : St} (ho : S.ok) {V : Dv} (h : Good S V) : Good (S.flush (V.first : Int) (V.cnt : Int)).1 V := by
  have hc := ho.flush (V.first : Int) (V.cnt : Int)
  rcases flush_cases ho h.ok h.fit with ⟨_, e⟩ | ⟨hdd, _, _, _, _, e⟩ | ⟨_, _, e, _⟩
  · rw [e]; exact h
  · refine h.cnt hc.2 (fun _ => coh_same (h.coh hdd) fun j h1 h2 => e j (by have := h.fit.1; omega))
  · exact h.cnt hc.2 (fun z => by rw [e] at z; cases z)
theorem newV_good {S : St} (ho : S.ok) {f c m : Int} (h : nwE S f c m = 0) : Good S (newV f c m) := by
  unfold nwE at h
  split at h
  · cases h
  · rename_i q
    have h1 := ho.hi
    exact ⟨⟨by show 1 ≤ c.toNat; omega, by show f.toNat + c.toNat ≤ 4096; omega, by show m.toNat ≤ 16; omega, Nat.zero_le _⟩, ⟨by show f.toNat + c.toNat ≤ S.count; omega, h1⟩, List.nodup_nil, fun _ b hb => nomatch hb⟩
end Go.Proofs.YtjippoejaieneaaGreat
