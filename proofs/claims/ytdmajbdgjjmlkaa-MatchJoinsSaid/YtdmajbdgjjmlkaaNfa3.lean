/- Machines: all empty steps followed, a text gone over byte by byte, hits; how many states there are: nothing of the program. No conditions. -/
import Derived.Test.YtdmajbdgjjmlkaaNfa2
namespace Go.Proofs.Ytdmajbdgjjmlkaa
set_option linter.unusedVariables false

/-! Sizes. -/
def sumR : List Rx → Nat
  | [] => 0
  | x :: l => sizeR x + sumR l
theorem sizeL_sum (m : Nat) : ∀ (l : List Rx) (acc : Nat), acc ≤ 257 → acc ≠ 0 → (∀ x ∈ l, sizeR x ≠ 0) → sizeL m l acc = min (acc + sumR l * m) 257
  | [], acc, h, _, _ => by rw [sizeL, sumR]; omega
  | x :: l, acc, h, h0, hx => by
    rw [sizeL, if_neg (hx x (by simp)), sizeL_sum m l _ (by omega) (by omega) (fun y hy => hx y (by simp [hy])), sumR, Nat.add_mul]
    generalize sizeR x * m = a
    generalize sumR l * m = b
    omega
theorem sizeR_sum {k mn mx s0 s1 s2 s3 : Int} {l : List Rx} (hf : formF k mn mx s0 s1 s2 s3 l.length = true) (hx : ∀ x ∈ l, sizeR x ≠ 0) : sizeR (.mk k mn mx s0 s1 s2 s3 l) = min (1 + sumR l * timesF mn mx) 257 := by
  rw [sizeR, if_pos hf, sizeL_sum _ _ _ (by omega) (by omega) hx]
theorem layT_len {f : Nat → List Sta → Nat × List Sta} {n : Nat} (hf : ∀ nx L, (f nx L).2.length ≤ L.length + n) (least : Int) : ∀ (c left nx bs : Nat) (L : List Sta), (layT f least c left nx bs L).2.length ≤ L.length + (if left = 0 then c - 1 else c) * n
  | 0, left, nx, bs, L => by rw [layT]; exact Nat.le_add_right _ _
  | c + 1, left, nx, bs, L => by
    rw [layT]
    refine Nat.le_trans (layT_len hf least c (left + 1) _ _ _) ?_
    rw [if_neg (Nat.succ_ne_zero left)]
    by_cases c0 : left = 0
    · subst c0
      rw [if_pos rfl, if_neg (Nat.lt_irrefl 0)]
      exact Nat.le_refl _
    · rw [if_neg c0, if_pos (Nat.pos_of_ne_zero c0), Nat.succ_mul]
      have := hf nx L
      omega
theorem layN_len {f : Nat → List Sta → Nat × List Sta} {n : Nat} (hf : ∀ nx L, (f nx L).2.length ≤ L.length + n) : ∀ (c b : Nat) (L : List Sta), (layN f c b L).2.length ≤ L.length + c * n
  | 0, b, L => by rw [layN]; exact Nat.le_add_right _ _
  | c + 1, b, L => by
    rw [layN]
    refine Nat.le_trans (layN_len hf c _ _) ?_
    have := hf b L
    rw [Nat.succ_mul]; omega
theorem layS_len : ∀ (l : List Rx), (∀ x ∈ l, ∀ nx L, (layR x nx L).2.length ≤ L.length + sizeR x) → ∀ nx L, (layS l nx L).2.length ≤ L.length + sumR l
  | [], _, nx, L => Nat.le_add_right _ _
  | x :: l, h, nx, L => by
    have e : layS (x :: l) nx L = layR x (layS l nx L).1 (layS l nx L).2 := rfl
    rw [e, sumR]
    have h1 := h x (by simp) (layS l nx L).1 (layS l nx L).2
    have h2 := layS_len l (fun y hy => h y (by simp [hy])) nx L
    omega
theorem layA_len : ∀ (l : List Rx), (∀ x ∈ l, ∀ nx L, (layR x nx L).2.length ≤ L.length + sizeR x) → ∀ nx bs L, (layA l nx bs L).2.length ≤ L.length + sumR l
  | [], _, nx, bs, L => Nat.le_add_right _ _
  | x :: l, h, nx, bs, L => by
    have e : layA (x :: l) nx bs L = layA l nx (bs ||| bitN (layR x nx L).1) (layR x nx L).2 := rfl
    rw [e, sumR]
    have h1 := h x (by simp) nx L
    have h2 := layA_len l (fun y hy => h y (by simp [hy])) nx (bs ||| bitN (layR x nx L).1) (layR x nx L).2
    omega
theorem sumR_lt {l : List Rx} {m n : Nat} (h : 1 + sumR l * m < n) (hm : 1 ≤ m) : ∀ x ∈ l, sizeR x < n := by
  intro x hx
  have : sizeR x ≤ sumR l := by
    clear h
    induction l with
    | nil => cases hx
    | cons y l ih =>
      rw [sumR]
      rcases List.mem_cons.1 hx with rfl | hx
      · omega
      · have := ih hx; omega
  have h2 : sumR l * 1 ≤ sumR l * m := Nat.mul_le_mul_left _ hm
  omega
theorem timesF_pos (mn mx : Int) : 1 ≤ timesF mn mx := by unfold timesF; omega
/-- no more states than the size says -/
theorem layR_len : ∀ t : Rx, sizeR t ≠ 0 → sizeR t < 257 → ∀ nx L, (layR t nx L).2.length ≤ L.length + sizeR t := by
  intro t
  refine Rx.ind (P := fun t => sizeR t ≠ 0 → sizeR t < 257 → ∀ nx L, (layR t nx L).2.length ≤ L.length + sizeR t) ?_ t
  intro k mn mx s0 s1 s2 s3 l ih h h57 nx L
  obtain ⟨hf, hx⟩ := sizeR_form h
  rw [sizeR_sum hf hx] at h57 ⊢
  have hlt : 1 + sumR l * timesF mn mx < 257 := by omega
  rw [Nat.min_eq_left (by omega)]
  have ht := timesF_pos mn mx
  have ih' : ∀ x ∈ l, ∀ nx L, (layR x nx L).2.length ≤ L.length + sizeR x := fun x hm => ih x hm (hx x hm) (sumR_lt hlt ht x hm)
  have hs1 : sumR l ≤ sumR l * timesF mn mx := by
    have := Nat.mul_le_mul_left (sumR l) ht
    omega
  by_cases k0 : k = 0
  · subst k0
    have e : layR (.mk 0 mn mx s0 s1 s2 s3 l) nx L = (L.length, L ++ [⟨s0, s1, s2, s3, bitN nx⟩]) := rfl
    rw [e]; simp
  · by_cases k2 : k = 2
    · subst k2
      have e : layR (.mk 2 mn mx s0 s1 s2 s3 l) nx L = ((layA l nx 0 L).2.length, (layA l nx 0 L).2 ++ [⟨0, 0, 0, 0, (layA l nx 0 L).1⟩]) := rfl
      rw [e]
      have := layA_len l ih' nx 0 L
      simp; omega
    · by_cases k3 : k = 3
      · subst k3
        obtain ⟨m0, m1, m2, hl⟩ := form3_parts hf
        match l, hl with
        | [x], _ =>
          have hx1 := ih' x (by simp)
          have es : sumR [x] = sizeR x := by rw [sumR, sumR]; omega
          rw [es]
          by_cases c : mx = -1
          · subst c
            have e : layR (.mk 3 mn (-1) s0 s1 s2 s3 [x]) nx L = if mn = 0 then (L.length, setNx (layR x L.length (L ++ [⟨0, 0, 0, 0, 0⟩])).2 L.length (bitN nx ||| bitN (layR x L.length (L ++ [⟨0, 0, 0, 0, 0⟩])).1)) else layN (layR x) (mn - 1).toNat (layR x L.length (L ++ [⟨0, 0, 0, 0, 0⟩])).1 (setNx (layR x L.length (L ++ [⟨0, 0, 0, 0, 0⟩])).2 L.length (bitN nx ||| bitN (layR x L.length (L ++ [⟨0, 0, 0, 0, 0⟩])).1)) := rfl
            rw [e]
            have h1 := hx1 L.length (L ++ [⟨0, 0, 0, 0, 0⟩])
            rw [List.length_append, List.length_singleton] at h1
            by_cases c0 : mn = 0
            · rw [if_pos c0]
              show (setNx _ _ _).length ≤ _
              rw [setNx_len]
              have : sizeR x * 1 ≤ sizeR x * timesF mn (-1) := Nat.mul_le_mul_left _ ht
              omega
            · rw [if_neg c0]
              refine Nat.le_trans (layN_len hx1 _ _ _) ?_
              rw [setNx_len]
              have e2 : timesF mn (-1) = (mn - 1).toNat + 1 := by unfold timesF; omega
              rw [e2, Nat.mul_succ, Nat.mul_comm (sizeR x)]
              omega
          · have e : layR (.mk 3 mn mx s0 s1 s2 s3 [x]) nx L = ((layT (layR x) mn (mx + 1).toNat 0 nx 0 L).2.length, (layT (layR x) mn (mx + 1).toNat 0 nx 0 L).2 ++ [⟨0, 0, 0, 0, (layT (layR x) mn (mx + 1).toNat 0 nx 0 L).1⟩]) := by
              rw [layR]
              simp only []
              rw [if_neg (by decide), if_neg (by decide), if_pos trivial, if_neg c]
              rfl
            rw [e]
            have := layT_len hx1 mn (mx + 1).toNat 0 nx 0 L
            rw [if_pos rfl] at this
            have h3 : (mx + 1).toNat - 1 ≤ timesF mn mx := by unfold timesF; omega
            have h4 := Nat.mul_le_mul_left (sizeR x) h3
            rw [Nat.mul_comm (sizeR x)] at h4
            simp
            omega
      · have e : layR (.mk k mn mx s0 s1 s2 s3 l) nx L = layS l nx L := by
          rw [layR]
          simp only []
          rw [if_neg k0, if_neg k2, if_neg k3]
        rw [e]
        have := layS_len l ih' nx L
        omega

/-! All empty steps followed. -/
def topN : Nat := 2135987035920910082395021706169552114602704522356652769947041607822219725780640550022962086936576
theorem topN_eq : topN = 2 ^ 320 := by kernel_rfl
theorem topN_pos : 0 < topN := by decide +kernel
theorem or_lt_of {n a b T : Nat} (hT : T = 2 ^ n) (ha : a < T) (hb : b < T) : a ||| b < T := by
  subst hT; exact Nat.or_lt_two_pow ha hb
theorem bit_lt_of {n a i T : Nat} (hT : T = 2 ^ n) (ha : a < T) (hi : a.testBit i = true) : i < n := by
  subst hT
  by_cases c : i < n
  · exact c
  · have h1 : a < 2 ^ i := Nat.lt_of_lt_of_le ha (Nat.pow_le_pow_right (by decide) (by omega))
    rw [Nat.testBit_lt_two_pow h1] at hi
    cases hi
theorem bitN_lt_of {n i T : Nat} (hT : T = 2 ^ n) (h : i < n) : bitN i < T := by
  subst hT
  unfold bitN
  exact Nat.pow_lt_pow_right (by decide) h
theorem lt_of_bits {n a T : Nat} (hT : T = 2 ^ n) (h : ∀ i, n ≤ i → a.testBit i = false) : a < T := by
  subst hT; exact Nat.lt_pow_two_of_testBit _ h
theorem topN_or {a b : Nat} (ha : a < topN) (hb : b < topN) : a ||| b < topN := or_lt_of topN_eq ha hb
theorem topN_bit {a : Nat} (ha : a < topN) {i : Nat} (hi : a.testBit i = true) : i < 320 := bit_lt_of topN_eq ha hi
theorem bitN_top {i : Nat} (h : i < 320) : bitN i < topN := bitN_lt_of topN_eq h
/-- the first empty step that leads on, by its list from a place on -/
def folStep (s : Nat) : List Sta → Nat → Option Nat
  | [], _ => none
  | x :: r, i => if s.testBit i = true ∧ x.empty = true ∧ s ||| x.nx ≠ s then some (s ||| x.nx) else folStep s r (i + 1)
def folS (L : List Sta) : Nat → Nat → Nat
  | 0, s => s
  | f + 1, s => match folStep s L 0 with
    | some m => folS L f m
    | none => s
def fol (L : List Sta) (s : Nat) : Nat := folS L topN s
def followAll : Nat → Nat → List Sta → List Sta
  | 0, _, L => L
  | c + 1, i, L => followAll c (i + 1) (setNx L i (fol L ((L[i]?.map Sta.nx).getD 0)))
structure Mac where
  sts : List Sta
  beg : Nat
deriving DecidableEq
def macR (t : Rx) : Mac :=
  let r := layR t 0 [⟨0, 0, 0, 0, 0⟩]
  let F := followAll r.2.length 0 r.2
  ⟨F, fol F (bitN r.1)⟩
def stepS (now : Nat) (b : UInt8) : List Sta → Nat → Nat → Nat
  | [], _, acc => acc
  | x :: r, i, acc => stepS now b r (i + 1) (if now.testBit i && x.reads b then acc ||| x.nx else acc)
def Mac.step (M : Mac) (now : Nat) (b : UInt8) : Nat := stepS now b M.sts 0 0
def Mac.run (M : Mac) (now : Nat) : Bs → Nat
  | [] => now
  | b :: s => M.run (M.step now b) s
def Mac.is (M : Mac) (s : Bs) : Bool := (M.run M.beg s).testBit 0
def Mac.lon (M : Mac) : Bs → Nat → Nat → Nat → Nat
  | [], i, past, now => past
  | b :: s, i, past, now => if now = 0 then past else M.lon s (i + 1) (if (M.step now b).testBit 0 then i + 1 else past) (M.step now b)
/-- the first hit in a text that begins at place i of the whole -/
def Mac.hit (M : Mac) : Bs → Nat → Option (Nat × Nat)
  | [], i => none
  | b :: s, i => if i < M.lon (b :: s) i i M.beg then some (i, M.lon (b :: s) i i M.beg) else M.hit s (i + 1)
/-- the first hit in a text from a place on -/
def Mac.hitF (M : Mac) (s : Bs) (i : Nat) : Option (Nat × Nat) := M.hit (s.drop i) i
def Mac.hits (M : Mac) (s : Bs) : Nat → Nat → List (Nat × Nat)
  | 0, _ => []
  | f + 1, i => match M.hitF s i with
    | none => []
    | some p => p :: M.hits s f p.2

theorem folStep_some : ∀ (r : List Sta) (s i m : Nat), folStep s r i = some m → ∃ j x, r[j]? = some x ∧ s.testBit (i + j) = true ∧ x.empty = true ∧ m = s ||| x.nx ∧ m ≠ s
  | [], s, i, m, h => by cases h
  | y :: r, s, i, m, h => by
    rw [folStep] at h
    split at h
    · next hc => cases h; exact ⟨0, y, rfl, hc.1, hc.2.1, rfl, hc.2.2⟩
    · obtain ⟨j, x, h1, h2, h3⟩ := folStep_some r s (i + 1) m h
      exact ⟨j + 1, x, by simpa using h1, by rw [show i + (j + 1) = i + 1 + j by omega]; exact h2, h3⟩
theorem folStep_none : ∀ (r : List Sta) (s i : Nat), folStep s r i = none → ∀ j x, r[j]? = some x → s.testBit (i + j) = true → x.empty = true → s ||| x.nx = s
  | [], s, i, h, j, x, hx, _, _ => by simp at hx
  | y :: r, s, i, h, j, x, hx, hb, he => by
    rw [folStep] at h
    split at h
    · cases h
    · next hc =>
      cases j with
      | zero =>
        simp at hx
        subst hx
        exact Classical.byContradiction fun q => hc ⟨hb, he, q⟩
      | succ j =>
        exact folStep_none r s (i + 1) h j x (by simpa using hx) (by rw [show i + 1 + j = i + (j + 1) by omega]; exact hb) he
/-- closed under empty steps -/
def Clo (L : List Sta) (s : Nat) : Prop := ∀ i x, L[i]? = some x → s.testBit i = true → x.empty = true → s ||| x.nx = s
theorem or_eq_left_iff {a b : Nat} : a ||| b = a ↔ ∀ q, b.testBit q = true → a.testBit q = true := by
  constructor
  · intro h q hq
    rw [← h, or_bit, hq, Bool.or_true]
  · intro h
    refine Nat.eq_of_testBit_eq fun q => ?_
    rw [or_bit]
    cases hb : b.testBit q
    · simp
    · rw [h q hb]; rfl
theorem left_le_or' (a b : Nat) : a ≤ a ||| b := Nat.left_le_or
def Lo (L : List Sta) : Prop := ∀ x ∈ L, x.nx < topN
theorem folS_ok (L : List Sta) (hL : Lo L) : ∀ (f s : Nat), s < topN → topN - s ≤ f → folS L f s < topN ∧ Clo L (folS L f s)
  | 0, s, hs, hf => by omega
  | f + 1, s, hs, hf => by
    rw [folS]
    cases h : folStep s L 0 with
    | none => exact ⟨hs, fun i x hx hb he => folStep_none L s 0 h i x hx (by rw [Nat.zero_add]; exact hb) he⟩
    | some m =>
      obtain ⟨j, x, hx, hb, he, rfl, hne⟩ := folStep_some L s 0 m h
      have h1 := left_le_or' s x.nx
      have h2 := topN_or hs (hL x (List.mem_of_getElem? hx))
      exact folS_ok L hL f _ h2 (by omega)
theorem fol_ok {L : List Sta} (hL : Lo L) {s : Nat} (hs : s < topN) : fol L s < topN ∧ Clo L (fol L s) := folS_ok L hL topN s hs (by omega)
/-- more fuel than is needed -/
theorem folS_more (L : List Sta) (hL : Lo L) : ∀ (f g s : Nat), s < topN → topN - s ≤ f → topN - s ≤ g → folS L f s = folS L g s
  | 0, g, s, hs, hf, hg => by omega
  | f + 1, 0, s, hs, hf, hg => by omega
  | f + 1, g + 1, s, hs, hf, hg => by
    rw [folS, folS]
    cases h : folStep s L 0 with
    | none => rfl
    | some m =>
      obtain ⟨j, x, hx, hb, he, rfl, hne⟩ := folStep_some L s 0 m h
      have h1 := left_le_or' s x.nx
      have h2 := topN_or hs (hL x (List.mem_of_getElem? hx))
      exact folS_more L hL f g _ h2 (by omega) (by omega)
theorem fol_some {L : List Sta} (hL : Lo L) {s m : Nat} (hs : s < topN) (h : folStep s L 0 = some m) : fol L s = fol L m ∧ m < topN ∧ s < m := by
  obtain ⟨j, x, hx, hb, he, rfl, hne⟩ := folStep_some L s 0 m h
  have h1 := left_le_or' s x.nx
  have h2 := topN_or hs (hL x (List.mem_of_getElem? hx))
  refine ⟨?_, h2, by omega⟩
  unfold fol
  have e : folS L topN s = folS L (topN + 1) s := folS_more L hL _ _ _ hs (by omega) (by omega)
  rw [e, folS, h]
theorem fol_none {L : List Sta} (hL : Lo L) {s : Nat} (hs : s < topN) (h : folStep s L 0 = none) : fol L s = s := by
  unfold fol
  have e : folS L topN s = folS L (topN + 1) s := folS_more L hL _ _ _ hs (by omega) (by omega)
  rw [e, folS, h]
/-- empty steps lead from one state to another one -/
inductive Eps (L : List Sta) : Nat → Nat → Prop
  | refl (i : Nat) : Eps L i i
  | tail (i j q : Nat) (x : Sta) (h : Eps L i j) (hx : L[j]? = some x) (he : x.empty = true) (hq : x.nx.testBit q = true) : Eps L i q
theorem Eps.trans {L : List Sta} {i j k : Nat} (h : Eps L i j) (g : Eps L j k) : Eps L i k := by
  induction g with
  | refl => exact h
  | tail j q x g hx he hq ih => exact .tail _ _ _ x ih hx he hq
theorem Eps.acc {L : List Sta} {i j : Nat} (h : Eps L i j) : ∀ s, Takes L j s → Takes L i s := by
  induction h with
  | refl => intro s h; exact h
  | tail j q x g hx he hq ih =>
    rintro s ⟨n, hn⟩
    exact ih s ⟨n + 1, .eps n j q x s hx he hq hn⟩
/-- the same states, their steps followed some way -/
structure Mix (L K : List Sta) : Prop where
  len : K.length = L.length
  set : ∀ (i : Nat) (x : Sta), L[i]? = some x → ∃ y : Sta, K[i]? = some y ∧ y.empty = x.empty ∧ (∀ b, y.reads b = x.reads b) ∧ (∀ q, x.nx.testBit q = true → y.nx.testBit q = true) ∧ (∀ q, y.nx.testBit q = true → ∃ p, x.nx.testBit p = true ∧ Eps L p q)
theorem Mix.refl (L : List Sta) : Mix L L := ⟨rfl, fun i x hx => ⟨x, hx, rfl, fun _ => rfl, fun _ h => h, fun q h => ⟨q, h, .refl q⟩⟩⟩
theorem folS_sound {L K : List Sta} (hM : Mix L K) : ∀ (f s q : Nat), (folS K f s).testBit q = true → ∃ p, s.testBit p = true ∧ Eps L p q
  | 0, s, q, h => ⟨q, h, .refl q⟩
  | f + 1, s, q, h => by
    rw [folS] at h
    cases hs : folStep s K 0 with
    | none => rw [hs] at h; exact ⟨q, h, .refl q⟩
    | some m =>
      rw [hs] at h
      obtain ⟨p, hp, hpq⟩ := folS_sound hM f m q h
      obtain ⟨j, y, hy, hb, he, rfl, hne⟩ := folStep_some K s 0 m hs
      rw [Nat.zero_add] at hb
      rw [or_bit, Bool.or_eq_true] at hp
      rcases hp with hp | hp
      · exact ⟨p, hp, hpq⟩
      · have hj : j < L.length := by rw [← hM.len]; exact (List.getElem?_eq_some_iff.1 hy).1
        obtain ⟨y', hy', e1, e2, e3, e4⟩ := hM.set j L[j] (List.getElem?_eq_getElem hj)
        rw [hy] at hy'
        cases hy'
        obtain ⟨p', hp', hpp⟩ := e4 p hp
        exact ⟨j, hb, (Eps.tail j j p' L[j] (.refl j) (List.getElem?_eq_getElem hj) (by rw [← e1]; exact he) hp').trans (hpp.trans hpq)⟩
theorem Mix.clo {L K : List Sta} (hM : Mix L K) {s : Nat} (h : Clo K s) : Clo L s := by
  intro i x hx hb he
  obtain ⟨y, hy, e1, _, e3, _⟩ := hM.set i x hx
  have := h i y hy hb (by rw [e1]; exact he)
  rw [or_eq_left_iff] at this ⊢
  exact fun q hq => this q (e3 q hq)
theorem folS_sub (L : List Sta) : ∀ (f s q : Nat), s.testBit q = true → (folS L f s).testBit q = true
  | 0, s, q, h => h
  | f + 1, s, q, h => by
    rw [folS]
    cases hs : folStep s L 0 with
    | none => exact h
    | some m =>
      obtain ⟨j, x, hx, hb, he, rfl, hne⟩ := folStep_some L s 0 m hs
      exact folS_sub L f _ q (by rw [or_bit, h]; rfl)
theorem Mix.put {L K : List Sta} (hM : Mix L K) {i : Nat} {y : Sta} (hy : K[i]? = some y) : Mix L (setNx K i (fol K y.nx)) := by
  refine ⟨by rw [setNx_len]; exact hM.len, fun j x hx => ?_⟩
  obtain ⟨z, hz, e1, e2, e3, e4⟩ := hM.set j x hx
  by_cases c : i = j
  · subst c
    rw [hy] at hz
    cases hz
    refine ⟨_, setNx_at K i _ y hy, e1, e2, fun q hq => folS_sub K _ _ q (e3 q hq), fun q hq => ?_⟩
    obtain ⟨p, hp, hpq⟩ := folS_sound hM _ _ q hq
    obtain ⟨p', hp', hpp⟩ := e4 p hp
    exact ⟨p', hp', hpp.trans hpq⟩
  · exact ⟨z, by rw [setNx_ne K i j _ c]; exact hz, e1, e2, e3, e4⟩
theorem Lo.put {K : List Sta} (h : Lo K) {i n : Nat} (hn : n < topN) : Lo (setNx K i n) := by
  intro x hx
  obtain ⟨j, hj⟩ := List.getElem?_of_mem hx
  by_cases c : i = j
  · subst c
    have hl : i < K.length := by
      have := (List.getElem?_eq_some_iff.1 hj).1
      rw [setNx_len] at this
      exact this
    rw [setNx_at K i n K[i] (List.getElem?_eq_getElem hl)] at hj
    cases hj
    exact hn
  · rw [setNx_ne K i j n c] at hj
    exact h x (List.mem_of_getElem? hj)
theorem followAll_ok {L : List Sta} : ∀ (c i : Nat) (K : List Sta), c + i = K.length → Lo K → Mix L K → (∀ (j : Nat) (y : Sta), j < i → K[j]? = some y → Clo L y.nx) →
    Lo (followAll c i K) ∧ Mix L (followAll c i K) ∧ (∀ (j : Nat) (y : Sta), (followAll c i K)[j]? = some y → Clo L y.nx)
  | 0, i, K, hc, hl, hM, hd => ⟨hl, hM, fun j y hy => hd j y (by have := (List.getElem?_eq_some_iff.1 hy).1; rw [followAll] at this; omega) hy⟩
  | c + 1, i, K, hc, hl, hM, hd => by
    rw [followAll]
    have hi : i < K.length := by omega
    have hy : K[i]? = some K[i] := List.getElem?_eq_getElem hi
    rw [hy]
    show Lo (followAll c (i + 1) (setNx K i (fol K K[i].nx))) ∧ _
    have hk := fol_ok hl (hl K[i] (List.getElem_mem hi))
    refine followAll_ok c (i + 1) _ (by rw [setNx_len]; omega) (hl.put hk.1) (hM.put hy) (fun j y hj hyj => ?_)
    by_cases cj : i = j
    · subst cj
      rw [setNx_at K i _ _ hy] at hyj
      cases hyj
      exact hM.clo hk.2
    · rw [setNx_ne K i j _ cj] at hyj
      exact hd j y (by omega) hyj
theorem stepS_bit (now : Nat) (b : UInt8) : ∀ (r : List Sta) (i acc q : Nat), (stepS now b r i acc).testBit q = true ↔ acc.testBit q = true ∨ ∃ j x, r[j]? = some x ∧ now.testBit (i + j) = true ∧ x.reads b = true ∧ x.nx.testBit q = true
  | [], i, acc, q => by
    rw [stepS]
    exact ⟨.inl, fun h => h.elim id fun ⟨j, x, hx, _⟩ => by simp at hx⟩
  | y :: r, i, acc, q => by
    rw [stepS, stepS_bit now b r]
    constructor
    · rintro (h | ⟨j, x, h1, h2, h3⟩)
      · split at h
        · next hc =>
          rw [or_bit, Bool.or_eq_true] at h
          rw [Bool.and_eq_true] at hc
          rcases h with h | h
          · exact .inl h
          · exact .inr ⟨0, y, rfl, hc.1, hc.2, h⟩
        · exact .inl h
      · exact .inr ⟨j + 1, x, by simpa using h1, by rw [show i + (j + 1) = i + 1 + j by omega]; exact h2, h3⟩
    · rintro (h | ⟨j, x, h1, h2, h3, h4⟩)
      · left
        split
        · rw [or_bit, h]; rfl
        · exact h
      · cases j with
        | zero =>
          simp at h1
          subst h1
          left
          rw [if_pos (by rw [Bool.and_eq_true]; exact ⟨h2, h3⟩), or_bit, h4, Bool.or_true]
        | succ j => exact .inr ⟨j, x, by simpa using h1, by rw [show i + 1 + j = i + (j + 1) by omega]; exact h2, h3, h4⟩
theorem stepS_lt (now : Nat) (b : UInt8) : ∀ (r : List Sta) (i acc : Nat), Lo r → acc < topN → stepS now b r i acc < topN
  | [], i, acc, _, h => h
  | y :: r, i, acc, hl, h => by
    rw [stepS]
    refine stepS_lt now b r _ _ (fun x hx => hl x (by simp [hx])) ?_
    split
    · exact topN_or h (hl y (by simp))
    · exact h
/-- a machine over states that are followed -/
structure Fine (L : List Sta) (M : Mac) : Prop where
  lo : Lo M.sts
  mix : Mix L M.sts
  clo : ∀ (j : Nat) (y : Sta), M.sts[j]? = some y → Clo L y.nx
theorem Fine.step_clo {L : List Sta} {M : Mac} (h : Fine L M) (now : Nat) (b : UInt8) : Clo L (M.step now b) := by
  intro i x hx hb he
  rw [or_eq_left_iff]
  intro q hq
  unfold Mac.step at hb ⊢
  rw [stepS_bit] at hb ⊢
  rcases hb with hb | ⟨j, y, h1, h2, h3, h4⟩
  · simp at hb
  · have := h.clo j y h1 i x hx h4 he
    rw [or_eq_left_iff] at this
    exact .inr ⟨j, y, h1, h2, h3, this q hq⟩
theorem Eps.in_clo {L : List Sta} {s i j : Nat} (hc : Clo L s) (h : Eps L i j) (hi : s.testBit i = true) : s.testBit j = true := by
  induction h with
  | refl => exact hi
  | tail j q x g hx he hq ih => exact (or_eq_left_iff.1 (hc j x hx ih he)) q hq
/-- what is taken from a state of a closed set on: by empty steps to the end, or to a state that reads -/
theorem acc_in {L : List Sta} {s : Nat} (hc : Clo L s) : ∀ (n q : Nat) (t : Bs), Acc L n q t → s.testBit q = true → (t = [] → s.testBit 0 = true) ∧ (∀ b r, t = b :: r → ∃ p x p', s.testBit p = true ∧ L[p]? = some x ∧ x.reads b = true ∧ x.nx.testBit p' = true ∧ Takes L p' r) := by
  intro n q t h
  induction h with
  | fin => exact fun hq => ⟨fun _ => hq, fun b r e => by cases e⟩
  | eps n p q x t hx he hq h ih =>
    intro hp
    exact ih ((or_eq_left_iff.1 (hc p x hx hp he)) q hq)
  | byte n p q x b t hx hb hq h ih =>
    intro hp
    refine ⟨fun e => (by cases e), fun b' r e => ?_⟩
    cases e
    exact ⟨p, x, q, hp, hx, hb, hq, n, h⟩
theorem Fine.run_ok {L : List Sta} {M : Mac} (h : Fine L M) : ∀ (s : Bs) (now : Nat), Clo L now → ((M.run now s).testBit 0 = true ↔ ∃ q, now.testBit q = true ∧ Takes L q s)
  | [], now, hc => by
    rw [Mac.run]
    exact ⟨fun h0 => ⟨0, h0, 0, .fin⟩, fun ⟨q, hq, n, hn⟩ => (acc_in hc n q [] hn hq).1 rfl⟩
  | b :: s, now, hc => by
    rw [Mac.run, h.run_ok s _ (h.step_clo now b)]
    unfold Mac.step
    constructor
    · rintro ⟨q, hq, n, hn⟩
      rw [stepS_bit] at hq
      rcases hq with hq | ⟨j, y, h1, h2, h3, h4⟩
      · simp at hq
      · rw [Nat.zero_add] at h2
        have hj : j < L.length := by rw [← h.mix.len]; exact (List.getElem?_eq_some_iff.1 h1).1
        obtain ⟨z, hz, e1, e2, e3, e4⟩ := h.mix.set j L[j] (List.getElem?_eq_getElem hj)
        rw [h1] at hz
        cases hz
        obtain ⟨p, hp, hpq⟩ := e4 q h4
        obtain ⟨m, hm⟩ := hpq.acc s ⟨n, hn⟩
        exact ⟨j, h2, m + 1, .byte m j p L[j] b s (List.getElem?_eq_getElem hj) (by rw [← e2]; exact h3) hp hm⟩
    · rintro ⟨q, hq, n, hn⟩
      obtain ⟨p, x, p', hp, hx, hb, hp', ht⟩ := (acc_in hc n q _ hn hq).2 b s rfl
      obtain ⟨y, hy, e1, e2, e3, e4⟩ := h.mix.set p x hx
      refine ⟨p', ?_, ht⟩
      rw [stepS_bit]
      exact .inr ⟨p, y, hy, by rw [Nat.zero_add]; exact hp, by rw [e2]; exact hb, e3 p' hp'⟩
theorem lo_lay {t : Rx} (h0 : sizeR t ≠ 0) (h1 : sizeR t < 257) : Lo (layR t 0 [⟨0, 0, 0, 0, 0⟩]).2 ∧ (layR t 0 [⟨0, 0, 0, 0, 0⟩]).1 < (layR t 0 [⟨0, 0, 0, 0, 0⟩]).2.length ∧ (layR t 0 [⟨0, 0, 0, 0, 0⟩]).2.length ≤ 257 := by
  have hL := layR_ok t h0 [⟨0, 0, 0, 0, 0⟩] 0 (by simp) (by simp)
  have hl := layR_len t h0 h1 0 [⟨0, 0, 0, 0, 0⟩]
  rw [List.length_singleton] at hl
  refine ⟨fun x hx => ?_, hL.at_, by omega⟩
  obtain ⟨i, hi⟩ := List.getElem?_of_mem hx
  by_cases c : i = 0
  · subst c
    rw [hL.pre 0 (by simp)] at hi
    simp at hi
    subst hi
    exact topN_pos
  · refine lt_of_bits topN_eq fun q hq => ?_
    cases hb : x.nx.testBit q
    · rfl
    · have := hL.bits i x (by simp; omega) hi q hb
      omega
/-- a machine takes the language of its expression -/
theorem mac_fine {t : Rx} (h0 : sizeR t ≠ 0) (h1 : sizeR t < 257) : Fine (layR t 0 [⟨0, 0, 0, 0, 0⟩]).2 (macR t) ∧ (macR t).beg < topN ∧ Clo (layR t 0 [⟨0, 0, 0, 0, 0⟩]).2 (macR t).beg ∧ (macR t).sts.length ≤ 257 ∧
    (∀ q, (macR t).beg.testBit q = true → Eps (layR t 0 [⟨0, 0, 0, 0, 0⟩]).2 (layR t 0 [⟨0, 0, 0, 0, 0⟩]).1 q) ∧ (macR t).beg.testBit (layR t 0 [⟨0, 0, 0, 0, 0⟩]).1 = true := by
  obtain ⟨hl, ha, hn⟩ := lo_lay h0 h1
  unfold macR
  generalize layR t 0 [⟨0, 0, 0, 0, 0⟩] = r at *
  dsimp only
  obtain ⟨f1, f2, f3⟩ := followAll_ok (L := r.2) r.2.length 0 r.2 rfl hl (Mix.refl _) (fun j y hj => by omega)
  generalize followAll r.2.length 0 r.2 = F at *
  have hk := fol_ok f1 (bitN_top (i := r.1) (by omega))
  refine ⟨⟨f1, f2, f3⟩, hk.1, f2.clo hk.2, by have := f2.len; omega, fun q hq => ?_, folS_sub F _ _ _ (by rw [bitN_bit]; simp)⟩
  obtain ⟨p, hp, hpq⟩ := folS_sound f2 _ _ q hq
  rw [bitN_bit] at hp
  have := of_decide_eq_true hp
  subst this
  exact hpq
theorem mac_is {t : Rx} (h0 : sizeR t ≠ 0) (h1 : sizeR t < 257) (s : Bs) : (macR t).is s = true ↔ Lang t s := by
  obtain ⟨hf, hb, hc, _, he, hs⟩ := mac_fine h0 h1
  have hL := layR_ok t h0 [⟨0, 0, 0, 0, 0⟩] 0 (by simp) (by simp)
  unfold Mac.is
  rw [hf.run_ok s _ hc]
  constructor
  · rintro ⟨q, hq, ht⟩
    obtain ⟨n, hn⟩ := (he q hq).acc s ht
    obtain ⟨u, v, m, rfl, hu, _, hv⟩ := hL.to _ (fun _ _ _ => rfl) n s hn
    have : v = [] := by
      cases hv with
      | fin => rfl
      | eps n p q x t hx he' hq' h => rw [hL.pre 0 (by simp)] at hx; simp at hx; subst hx; simp at hq'
      | byte n p q x b t hx hb' hq' h => rw [hL.pre 0 (by simp)] at hx; simp at hx; subst hx; simp at hq'
    subst this
    rw [List.append_nil]
    exact hu
  · intro h
    have := hL.of _ (fun _ _ _ => rfl) s [] h ⟨0, .fin⟩
    rw [List.append_nil] at this
    exact ⟨_, hs, this⟩
end Go.Proofs.Ytdmajbdgjjmlkaa
