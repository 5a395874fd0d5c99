/- The document's own numbers: a product of digits of sixteen bits, a root's bits, the first primes, the numbers K: plain facts. No conditions. -/
import Derived.Test.YtdkhnklggidfpaaMath
namespace Go.Proofs.Ytdkhnklggidfpaa

/-- a row of digits times one digit, added to what stands from place i on: behind k digits; the row and the carry -/
def inn (x i : Nat) (b : List Nat) (o : List Nat) : Nat → List Nat × Nat
  | 0 => (o, 0)
  | k + 1 => (((inn x i b o k).1).set (i + k) (((inn x i b o k).2 + (((inn x i b o k).1).getD (i + k) 0 + x * b.getD k 0)) % 65536), ((inn x i b o k).2 + (((inn x i b o k).1).getD (i + k) 0 + x * b.getD k 0)) / 65536)
/-- the product's digits behind i digits of a -/
def tim (a b : List Nat) : Nat → List Nat
  | 0 => List.replicate (a.length + b.length) 0
  | i + 1 => ((inn (a.getD i 0) i b (tim a b i) b.length).1).set (i + b.length) (inn (a.getD i 0) i b (tim a b i) b.length).2
def timesL (a b : List Nat) : List Nat := tim a b a.length
/-- above p 2^(32 n), looking at the lowest k digits -/
def abv (a : List Nat) (p n : Nat) : Nat → Bool
  | 0 => false
  | k + 1 => if a.getD k 0 = (if k = 2 * n then p else 0) then abv a p n k else decide ((if k = 2 * n then p else 0) < a.getD k 0)
def aboveL (a : List Nat) (p n : Nat) : Bool := abv a p n a.length
def digs (y : Nat) : List Nat := [y % 65536, y / 65536 % 65536, y / 4294967296]
def powL (d : List Nat) : Nat → List Nat
  | 0 => [1]
  | i + 1 => timesL (powL d i) d
/-- the root's bits from the highest, behind k of the 41 -/
def rootX (p n : Nat) : Nat → Nat
  | 0 => 0
  | k + 1 => if aboveL (powL (digs (rootX p n k + 2 ^ (40 - k))) n) p n then rootX p n k else rootX p n k + 2 ^ (40 - k)
def rootF (p n : Nat) : Nat := rootX p n 41 % 4294967296
def primes : List Nat := [2, 3, 5, 7, 11, 13, 17, 19, 23, 29, 31, 37, 41, 43, 47, 53, 59, 61, 67, 71, 73, 79, 83, 89, 97, 101, 103, 107, 109, 113, 127, 131, 137, 139, 149, 151, 157, 163, 167, 173, 179, 181, 191, 193, 197, 199, 211, 223, 227, 229, 233, 239, 241, 251, 257, 263, 269, 271, 277, 281, 283, 293, 307, 311]
set_option maxRecDepth 100000 in
theorem roots_k0 : [2, 3, 5, 7, 11, 13, 17, 19].map (rootF · 3) = [1116352408, 1899447441, 3049323471, 3921009573, 961987163, 1508970993, 2453635748, 2870763221] := by decide +kernel
set_option maxRecDepth 100000 in
theorem roots_k1 : [23, 29, 31, 37, 41, 43, 47, 53].map (rootF · 3) = [3624381080, 310598401, 607225278, 1426881987, 1925078388, 2162078206, 2614888103, 3248222580] := by decide +kernel
set_option maxRecDepth 100000 in
theorem roots_k2 : [59, 61, 67, 71, 73, 79, 83, 89].map (rootF · 3) = [3835390401, 4022224774, 264347078, 604807628, 770255983, 1249150122, 1555081692, 1996064986] := by decide +kernel
set_option maxRecDepth 100000 in
theorem roots_k3 : [97, 101, 103, 107, 109, 113, 127, 131].map (rootF · 3) = [2554220882, 2821834349, 2952996808, 3210313671, 3336571891, 3584528711, 113926993, 338241895] := by decide +kernel
set_option maxRecDepth 100000 in
theorem roots_k4 : [137, 139, 149, 151, 157, 163, 167, 173].map (rootF · 3) = [666307205, 773529912, 1294757372, 1396182291, 1695183700, 1986661051, 2177026350, 2456956037] := by decide +kernel
set_option maxRecDepth 100000 in
theorem roots_k5 : [179, 181, 191, 193, 197, 199, 211, 223].map (rootF · 3) = [2730485921, 2820302411, 3259730800, 3345764771, 3516065817, 3600352804, 4094571909, 275423344] := by decide +kernel
set_option maxRecDepth 100000 in
theorem roots_k6 : [227, 229, 233, 239, 241, 251, 257, 263].map (rootF · 3) = [430227734, 506948616, 659060556, 883997877, 958139571, 1322822218, 1537002063, 1747873779] := by decide +kernel
set_option maxRecDepth 100000 in
theorem roots_k7 : [269, 271, 277, 281, 283, 293, 307, 311].map (rootF · 3) = [1955562222, 2024104815, 2227730452, 2361852424, 2428436474, 2756734187, 3204031479, 3329325298] := by decide +kernel
set_option maxRecDepth 100000 in
theorem roots_first : [2, 3, 5, 7, 11, 13, 17, 19].map (rootF · 2) = [1779033703, 3144134277, 1013904242, 2773480762, 1359893119, 2600822924, 528734635, 1541459225] := by decide +kernel
theorem roots_keys : primes.map (rootF · 3) = keys := by
  have e : primes = [2, 3, 5, 7, 11, 13, 17, 19] ++ [23, 29, 31, 37, 41, 43, 47, 53] ++ [59, 61, 67, 71, 73, 79, 83, 89] ++ [97, 101, 103, 107, 109, 113, 127, 131] ++ [137, 139, 149, 151, 157, 163, 167, 173] ++ [179, 181, 191, 193, 197, 199, 211, 223] ++ [227, 229, 233, 239, 241, 251, 257, 263] ++ [269, 271, 277, 281, 283, 293, 307, 311] := rfl
  rw [e, List.map_append, List.map_append, List.map_append, List.map_append, List.map_append, List.map_append, List.map_append, roots_k0, roots_k1, roots_k2, roots_k3, roots_k4, roots_k5, roots_k6, roots_k7]
  rfl
end Go.Proofs.Ytdkhnklggidfpaa
