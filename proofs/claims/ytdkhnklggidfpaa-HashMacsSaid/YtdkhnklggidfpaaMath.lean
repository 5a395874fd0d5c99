/- Plain facts on the sum of bytes (SHA-256): the numbers of 32 bits, a block's step, the bytes fed one by one: nothing of the program. No conditions. -/
import Derived.Laws.BitsAllLaws
import Derived.Laws.BitsLemmas
import Derived.RowKit
namespace Go.Proofs.Ytdkhnklggidfpaa
open Go.RowKit

/-- turned right by n bits -/
def ror (x n : Nat) : Nat := (x * 2 ^ (32 - n)) % 4294967296 ||| x / 2 ^ n
def add (a b : Nat) : Nat := (a + b) % 4294967296
def s6 (e : Nat) : Nat := ror e 6 ^^^ ror e 11 ^^^ ror e 25
def s2 (a : Nat) : Nat := ror a 2 ^^^ ror a 13 ^^^ ror a 22
def s7 (x : Nat) : Nat := ror x 7 ^^^ ror x 18 ^^^ x / 8
def s17 (y : Nat) : Nat := ror y 17 ^^^ ror y 19 ^^^ y / 1024
def chs (e f g : Nat) : Nat := (e &&& f) ^^^ ((4294967295 - e) &&& g)
def maj (a b c : Nat) : Nat := (a &&& b) ^^^ (a &&& c) ^^^ (b &&& c)

theorem ror_lt {x : Nat} (n : Nat) (h : x < 4294967296) : ror x n < 4294967296 := by
  unfold ror
  exact Nat.or_lt_two_pow (n := 32) (Nat.mod_lt _ (by decide)) (Nat.lt_of_le_of_lt (Nat.div_le_self _ _) h)
theorem add_lt (a b : Nat) : add a b < 4294967296 := Nat.mod_lt _ (by decide)
theorem xor_lt {a b : Nat} (h : a < 4294967296) (k : b < 4294967296) : a ^^^ b < 4294967296 := Nat.xor_lt_two_pow (n := 32) h k
theorem and_lt {a : Nat} (b : Nat) (h : a < 4294967296) : a &&& b < 4294967296 := Nat.lt_of_le_of_lt Nat.and_le_left h
theorem s6_lt {e : Nat} (h : e < 4294967296) : s6 e < 4294967296 := xor_lt (xor_lt (ror_lt _ h) (ror_lt _ h)) (ror_lt _ h)
theorem s2_lt {e : Nat} (h : e < 4294967296) : s2 e < 4294967296 := xor_lt (xor_lt (ror_lt _ h) (ror_lt _ h)) (ror_lt _ h)
theorem s7_lt {e : Nat} (h : e < 4294967296) : s7 e < 4294967296 := xor_lt (xor_lt (ror_lt _ h) (ror_lt _ h)) (by omega)
theorem s17_lt {e : Nat} (h : e < 4294967296) : s17 e < 4294967296 := xor_lt (xor_lt (ror_lt _ h) (ror_lt _ h)) (by omega)
theorem chs_lt {e f g : Nat} (h : e < 4294967296) : chs e f g < 4294967296 := xor_lt (and_lt _ h) (and_lt _ (by omega))
theorem maj_lt {a b c : Nat} (h : a < 4294967296) (k : b < 4294967296) : maj a b c < 4294967296 := xor_lt (xor_lt (and_lt _ h) (and_lt _ h)) (and_lt _ k)

/-- a state -/
structure St where
  a : Nat
  b : Nat
  c : Nat
  d : Nat
  e : Nat
  f : Nat
  g : Nat
  h : Nat
structure St.ok (s : St) : Prop where
  a : s.a < 4294967296
  b : s.b < 4294967296
  c : s.c < 4294967296
  d : s.d < 4294967296
  e : s.e < 4294967296
  f : s.f < 4294967296
  g : s.g < 4294967296
  h : s.h < 4294967296
def first : St := ⟨1779033703, 3144134277, 1013904242, 2773480762, 1359893119, 2600822924, 528734635, 1541459225⟩
theorem first_ok : first.ok := by constructor <;> decide
def keys : List Nat := [1116352408, 1899447441, 3049323471, 3921009573, 961987163, 1508970993, 2453635748, 2870763221, 3624381080, 310598401, 607225278, 1426881987, 1925078388, 2162078206, 2614888103, 3248222580, 3835390401, 4022224774, 264347078, 604807628, 770255983, 1249150122, 1555081692, 1996064986, 2554220882, 2821834349, 2952996808, 3210313671, 3336571891, 3584528711, 113926993, 338241895, 666307205, 773529912, 1294757372, 1396182291, 1695183700, 1986661051, 2177026350, 2456956037, 2730485921, 2820302411, 3259730800, 3345764771, 3516065817, 3600352804, 4094571909, 275423344, 430227734, 506948616, 659060556, 883997877, 958139571, 1322822218, 1537002063, 1747873779, 1955562222, 2024104815, 2227730452, 2361852424, 2428436474, 2756734187, 3204031479, 3329325298]
theorem keys_length : keys.length = 64 := rfl
theorem keys_lt : ∀ k ∈ keys, k < 4294967296 := by decide

def t1 (s : St) (k w : Nat) : Nat := add (add (add (add s.h (s6 s.e)) (chs s.e s.f s.g)) k) w
def u1 (s : St) : Nat := add (s2 s.a) (maj s.a s.b s.c)
def rnd (s : St) (k w : Nat) : St := ⟨add (t1 s k w) (u1 s), s.a, s.b, s.c, add s.d (t1 s k w), s.e, s.f, s.g⟩
theorem rnd_ok {s : St} (h : s.ok) (k w : Nat) : (rnd s k w).ok := ⟨add_lt _ _, h.a, h.b, h.c, add_lt _ _, h.e, h.f, h.g⟩

/-- four bytes' number -/
def word (b : List UInt8) (i : Nat) : Nat := (b.getD i 0).toNat * 16777216 + (b.getD (i + 1) 0).toNat * 65536 + (b.getD (i + 2) 0).toNat * 256 + (b.getD (i + 3) 0).toNat
theorem word_lt (b : List UInt8) (i : Nat) : word b i < 4294967296 := by
  unfold word
  have h0 := (b.getD i 0).toNat_lt
  have h1 := (b.getD (i + 1) 0).toNat_lt
  have h2 := (b.getD (i + 2) 0).toNat_lt
  have h3 := (b.getD (i + 3) 0).toNat_lt
  omega
def wnext (w : List Nat) (i : Nat) : Nat := add (add (add (w.getD (i - 16) 0) (s7 (w.getD (i - 15) 0))) (w.getD (i - 7) 0)) (s17 (w.getD (i - 2) 0))
/-- the first n numbers W of a block -/
def ws (b : List UInt8) : Nat → List Nat
  | 0 => []
  | n + 1 => ws b n ++ [if n < 16 then word b (4 * n) else wnext (ws b n) n]
theorem ws_length (b : List UInt8) : ∀ n, (ws b n).length = n
  | 0 => rfl
  | n + 1 => by simp [ws, ws_length b n]
theorem ws_lt (b : List UInt8) : ∀ n, ∀ x ∈ ws b n, x < 4294967296
  | 0 => by simp [ws]
  | n + 1 => by
    intro x hx
    simp only [ws, List.mem_append, List.mem_singleton] at hx
    rcases hx with hx | rfl
    · exact ws_lt b n x hx
    · split
      · exact word_lt _ _
      · exact add_lt _ _
/-- the state behind some rounds -/
def rounds (w : List Nat) (s : St) : Nat → St
  | 0 => s
  | n + 1 => rnd (rounds w s n) (keys.getD n 0) (w.getD n 0)
theorem rounds_ok {w : List Nat} {s : St} (h : s.ok) : ∀ n, (rounds w s n).ok
  | 0 => h
  | n + 1 => rnd_ok (rounds_ok h n) _ _
def sums (s r : St) : St := ⟨add s.a r.a, add s.b r.b, add s.c r.c, add s.d r.d, add s.e r.e, add s.f r.f, add s.g r.g, add s.h r.h⟩
theorem sums_ok (s r : St) : (sums s r).ok := ⟨add_lt _ _, add_lt _ _, add_lt _ _, add_lt _ _, add_lt _ _, add_lt _ _, add_lt _ _, add_lt _ _⟩
/-- the state that a block makes of s -/
def next (s : St) (b : List UInt8) : St := sums s (rounds (ws b 64) s 64)
theorem next_ok (s : St) (b : List UInt8) : (next s b).ok := sums_ok _ _

/-- a byte more: the state of all whole blocks, and what is not summed yet -/
def feed (x : St × List UInt8) (b : UInt8) : St × List UInt8 := if x.2.length = 63 then (next x.1 (x.2 ++ [b]), []) else (x.1, x.2 ++ [b])
def feeds (x : St × List UInt8) (l : List UInt8) : St × List UInt8 := l.foldl feed x
def fed (l : List UInt8) : St × List UInt8 := feeds (first, []) l
theorem feeds_append (x : St × List UInt8) (l m : List UInt8) : feeds x (l ++ m) = feeds (feeds x l) m := by unfold feeds; rw [List.foldl_append]
theorem fed_append (l m : List UInt8) : fed (l ++ m) = feeds (fed l) m := feeds_append _ _ _
theorem feeds_short : ∀ (t : List UInt8) (s : St) (r : List UInt8), r.length + t.length < 64 → feeds (s, r) t = (s, r ++ t)
  | [], s, r, _ => by simp [feeds]
  | b :: t, s, r, h => by
    have h' : ¬ r.length = 63 := by simp at h; omega
    show feeds (feed (s, r) b) t = _
    have e : feed (s, r) b = (s, r ++ [b]) := by unfold feed; rw [if_neg h']
    rw [e, feeds_short t s (r ++ [b]) (by simp at h ⊢; omega)]
    simp
theorem feeds_full : ∀ (t : List UInt8) (s : St) (r : List UInt8), r.length + t.length = 64 → r.length < 64 → feeds (s, r) t = (next s (r ++ t), [])
  | [], s, r, h, h2 => by simp at h; omega
  | b :: t, s, r, h, h2 => by
    show feeds (feed (s, r) b) t = _
    by_cases h' : r.length = 63
    · have e : feed (s, r) b = (next s (r ++ [b]), []) := by unfold feed; rw [if_pos h']
      have ht : t = [] := by cases t with
        | nil => rfl
        | cons c t => simp at h; omega
      subst ht
      rw [e]; rfl
    · have e : feed (s, r) b = (s, r ++ [b]) := by unfold feed; rw [if_neg h']
      rw [e, feeds_full t s (r ++ [b]) (by simp at h ⊢; omega) (by simp; omega)]
      simp
theorem feed_len (x : St × List UInt8) (b : UInt8) (n : Nat) (h : x.2.length = n % 64) : (feed x b).2.length = (n + 1) % 64 := by
  unfold feed
  split
  · simp; omega
  · simp; omega
theorem feeds_len : ∀ (l : List UInt8) (x : St × List UInt8) (n : Nat), x.2.length = n % 64 → (feeds x l).2.length = (n + l.length) % 64
  | [], x, n, h => by simpa [feeds] using h
  | b :: l, x, n, h => by
    show (feeds (feed x b) l).2.length = _
    rw [feeds_len l _ (n + 1) (feed_len x b n h), List.length_cons]
    congr 1; omega
theorem fed_len (l : List UInt8) : (fed l).2.length = l.length % 64 := by
  have := feeds_len l (first, []) 0 rfl
  rwa [Nat.zero_add] at this
theorem feed_ok (x : St × List UInt8) (b : UInt8) (h : x.1.ok) : (feed x b).1.ok := by
  unfold feed
  split
  · exact next_ok _ _
  · exact h
theorem feeds_ok : ∀ (l : List UInt8) (x : St × List UInt8), x.1.ok → (feeds x l).1.ok
  | [], _, h => h
  | b :: l, x, h => feeds_ok l _ (feed_ok x b h)
theorem fed_ok (l : List UInt8) : (fed l).1.ok := feeds_ok l _ first_ok

/-- a number's eight bytes, the highest first -/
def be8 (n : Nat) : List UInt8 := [UInt8.ofNat (n / 2 ^ 56), UInt8.ofNat (n / 2 ^ 48), UInt8.ofNat (n / 2 ^ 40), UInt8.ofNat (n / 2 ^ 32), UInt8.ofNat (n / 2 ^ 24), UInt8.ofNat (n / 2 ^ 16), UInt8.ofNat (n / 2 ^ 8), UInt8.ofNat n]
theorem be8_length (n : Nat) : (be8 n).length = 8 := rfl
def zeros (n : Nat) : Nat := (119 - n % 64) % 64
def pad (n : Nat) : List UInt8 := [128] ++ List.replicate (zeros n) 0 ++ be8 (8 * n)
theorem pad_length (n : Nat) : (pad n).length = 9 + zeros n := by simp [pad, be8]; omega
theorem pad_full (n : Nat) : (n + (pad n).length) % 64 = 0 := by rw [pad_length]; unfold zeros; omega
def four (x : Nat) : List UInt8 := [UInt8.ofNat (x / 16777216), UInt8.ofNat (x / 65536), UInt8.ofNat (x / 256), UInt8.ofNat x]
def outs (s : St) : List UInt8 := four s.a ++ four s.b ++ four s.c ++ four s.d ++ four s.e ++ four s.f ++ four s.g ++ four s.h
theorem outs_length (s : St) : (outs s).length = 32 := rfl
/-- the sum of bytes -/
def sumL (l : List UInt8) : List UInt8 := outs (fed (l ++ pad l.length)).1
theorem sumL_length (l : List UInt8) : (sumL l).length = 32 := rfl

/-- a key of a block at most -/
def keyL (key : List UInt8) : List UInt8 := if 64 < key.length then sumL key else key
def maskL (key : List UInt8) (m : UInt8) : List UInt8 := (key ++ List.replicate (64 - key.length) 0).map (· ^^^ m)
def macL (key s : List UInt8) : List UInt8 := sumL (maskL (keyL key) 92 ++ sumL (maskL (keyL key) 54 ++ s))
def linkL (link rec : List UInt8) : List UInt8 := sumL (link ++ be8 rec.length ++ rec)
def chainL (link : List UInt8) (l : List (List UInt8)) : List UInt8 := l.foldl linkL link
theorem chainL_append (link : List UInt8) (l m : List (List UInt8)) : chainL link (l ++ m) = chainL (chainL link l) m := by unfold chainL; rw [List.foldl_append]
theorem keyL_length (key : List UInt8) : (keyL key).length ≤ 64 := by
  unfold keyL
  split
  · rw [sumL_length]; decide
  · omega

set_option maxRecDepth 100000 in
theorem sum_abc : sumL [97, 98, 99] = [186, 120, 22, 191, 143, 1, 207, 234, 65, 65, 64, 222, 93, 174, 34, 35, 176, 3, 97, 163, 150, 23, 122, 156, 180, 16, 255, 97, 242, 0, 21, 173] := by decide +kernel
set_option maxRecDepth 100000 in
theorem mac_jefe : macL [74, 101, 102, 101] [119, 104, 97, 116, 32, 100, 111, 32, 121, 97, 32, 119, 97, 110, 116, 32, 102, 111, 114, 32, 110, 111, 116, 104, 105, 110, 103, 63] = [91, 220, 193, 70, 191, 96, 117, 78, 106, 4, 36, 38, 8, 149, 117, 199, 90, 0, 63, 8, 157, 39, 57, 131, 157, 236, 88, 185, 100, 236, 56, 67] := by decide +kernel
end Go.Proofs.Ytdkhnklggidfpaa
