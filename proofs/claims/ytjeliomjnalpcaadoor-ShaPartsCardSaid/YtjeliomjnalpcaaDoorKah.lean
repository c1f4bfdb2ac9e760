/- Several texts in one; each begins with a remark that says what it shows and on which conditions. -/
import Derived.Test.YtjeliomjnalpcaaDoorKaa
/- SHA-256 as the document tells it, over lists of numbers; what nothing and 'abc' come to. No condition; no program is named. -/
namespace Go.Proofs.YtjeliomjnalpcaaDoor
def rot32 (x k : Nat) : Nat := x / 2 ^ k ||| x * 2 ^ (32 - k) % 4294967296
def sig0 (x : Nat) : Nat := rot32 x 7 ^^^ rot32 x 18 ^^^ x / 2 ^ 3
def sig1 (y : Nat) : Nat := rot32 y 17 ^^^ rot32 y 19 ^^^ y / 2 ^ 10
def Sig0 (a : Nat) : Nat := rot32 a 2 ^^^ rot32 a 13 ^^^ rot32 a 22
def Sig1 (e : Nat) : Nat := rot32 e 6 ^^^ rot32 e 11 ^^^ rot32 e 25
def chS (e f g : Nat) : Nat := (e &&& f) ^^^ ((4294967295 - e) &&& g)
def majS (a b c : Nat) : Nat := (a &&& b) ^^^ (a &&& c) ^^^ (b &&& c)
def tS (e f g h k w : Nat) : Nat := (h + Sig1 e + chS e f g + k + w) % 4294967296
def uS (a b c : Nat) : Nat := (Sig0 a + majS a b c) % 4294967296
/-- A round. -/
def roundS (v : List Nat) (k w : Nat) : List Nat :=
  [(tS (nth v 4) (nth v 5) (nth v 6) (nth v 7) k w + uS (nth v 0) (nth v 1) (nth v 2)) % 4294967296, nth v 0, nth v 1, nth v 2,
    (nth v 3 + tS (nth v 4) (nth v 5) (nth v 6) (nth v 7) k w) % 4294967296, nth v 4, nth v 5, nth v 6]
/-- A schedule's next word. -/
def nextS (l : List Nat) : Nat := (nth l (l.length - 16) + nth l (l.length - 7) + sig0 (nth l (l.length - 15)) + sig1 (nth l (l.length - 2))) % 4294967296
/-- The first 16 words, and so many more. -/
def wordS4 (b : List Nat) (i : Nat) : Nat := nth b (4 * i) * 16777216 + nth b (4 * i + 1) * 65536 + nth b (4 * i + 2) * 256 + nth b (4 * i + 3)
def schedS (b : List Nat) : Nat → List Nat
  | 0 => (List.range 16).map (wordS4 b)
  | n + 1 => schedS b n ++ [nextS (schedS b n)]
def schedT : List Nat → Nat → List Nat
  | l, 0 => l
  | l, n + 1 => schedT (l ++ [nextS l]) n
/-- So many rounds. -/
def roundsS (h ks ws : List Nat) : Nat → List Nat
  | 0 => h
  | n + 1 => roundS (roundsS h ks ws n) (nth ks n) (nth ws n)
def addS (h v : List Nat) : List Nat := (List.range 8).map fun i => (nth h i + nth v i) % 4294967296
def firstS : List Nat := [0x6a09e667, 0xbb67ae85, 0x3c6ef372, 0xa54ff53a, 0x510e527f, 0x9b05688c, 0x1f83d9ab, 0x5be0cd19]
def stepsS : List Nat := [
    0x428a2f98, 0x71374491, 0xb5c0fbcf, 0xe9b5dba5, 0x3956c25b, 0x59f111f1, 0x923f82a4, 0xab1c5ed5,
    0xd807aa98, 0x12835b01, 0x243185be, 0x550c7dc3, 0x72be5d74, 0x80deb1fe, 0x9bdc06a7, 0xc19bf174,
    0xe49b69c1, 0xefbe4786, 0x0fc19dc6, 0x240ca1cc, 0x2de92c6f, 0x4a7484aa, 0x5cb0a9dc, 0x76f988da,
    0x983e5152, 0xa831c66d, 0xb00327c8, 0xbf597fc7, 0xc6e00bf3, 0xd5a79147, 0x06ca6351, 0x14292967,
    0x27b70a85, 0x2e1b2138, 0x4d2c6dfc, 0x53380d13, 0x650a7354, 0x766a0abb, 0x81c2c92e, 0x92722c85,
    0xa2bfe8a1, 0xa81a664b, 0xc24b8b70, 0xc76c51a3, 0xd192e819, 0xd6990624, 0xf40e3585, 0x106aa070,
    0x19a4c116, 0x1e376c08, 0x2748774c, 0x34b0bcb5, 0x391c0cb3, 0x4ed8aa4a, 0x5b9cca4f, 0x682e6ff3,
    0x748f82ee, 0x78a5636f, 0x84c87814, 0x8cc70208, 0x90befffa, 0xa4506ceb, 0xbef9a3f7, 0xc67178f2]
def blockS (h b : List Nat) : List Nat := addS h (roundsS h stepsS (schedS b 48) 64)
/-- A message's length in 8 bytes. -/
def lenS (n : Nat) : List Nat := (List.range 8).map fun i => 8 * n % 18446744073709551616 / 256 ^ (7 - i) % 256
def zerosS (n : Nat) : Nat := (119 - n % 64) % 64
def blocksS (m : List Nat) : List Nat := m ++ [128] ++ List.replicate (zerosS m.length) 0 ++ lenS m.length
def foldS (b : List Nat) : Nat → List Nat
  | 0 => firstS
  | n + 1 => blockS (foldS b n) ((b.drop (64 * n)).take 64)
def bytesS (h : List Nat) : List Nat := (List.range 32).map fun i => nth h (i / 4) / 256 ^ (3 - i % 4) % 256
def shaS (m : List Nat) : List Nat := bytesS (foldS (blocksS m) ((blocksS m).length / 64))
/-! A way to reckon it -/
def forceN {α : Type} (n : Nat) (k : Nat → α) : α := Nat.rec (k 0) (fun m _ => k (m + 1)) n
theorem forceN_eq {α : Type} (n : Nat) (k : Nat → α) : forceN n k = k n := by cases n <;> rfl
def forceL {α : Type} : List Nat → (List Nat → α) → α
  | [], k => k []
  | a :: l, k => forceN a fun a' => forceL l fun l' => k (a' :: l')
theorem forceL_eq {α : Type} (l : List Nat) (k : List Nat → α) : forceL l k = k l := by
  induction l generalizing k with
  | nil => rfl
  | cons a l ih => rw [forceL, forceN_eq, ih]
def roundsF : List Nat → List (Nat × Nat) → List Nat
  | v, [] => v
  | v, (k, x) :: r => forceL (roundS v k x) fun v' => roundsF v' r
def schedF : List Nat → Nat → List Nat
  | l, 0 => l.reverse
  | l, n + 1 => forceN ((nth l 15 + nth l 6 + sig0 (nth l 14) + sig1 (nth l 1)) % 4294967296) fun x => schedF (x :: l) n
def blockF (h b : List Nat) : List Nat := forceL ((List.range 16).map (wordS4 b)) fun l => forceL (schedF l.reverse 48) fun ws => forceL (roundsF h (stepsS.zip ws)) fun v => addS h v
theorem nth_reverse (l : List Nat) (j : Nat) (h : j < l.length) : nth l.reverse j = nth l (l.length - 1 - j) := by
  have h2 : l.length - 1 - j < l.length := by omega
  simp [nth, h, h2]
theorem schedF_eq (n : Nat) : ∀ l : List Nat, 16 ≤ l.length → schedF l n = schedT l.reverse n := by
  induction n with
  | zero => intro l _; rfl
  | succ n ih =>
    intro l hl
    rw [schedF, forceN_eq, ih _ (by simp; omega), schedT]
    congr 1
    rw [List.reverse_cons, nextS, List.length_reverse, nth_reverse _ _ (by omega), nth_reverse _ _ (by omega), nth_reverse _ _ (by omega), nth_reverse _ _ (by omega)]
    rw [show l.length - 1 - (l.length - 16) = 15 by omega, show l.length - 1 - (l.length - 7) = 6 by omega, show l.length - 1 - (l.length - 15) = 14 by omega, show l.length - 1 - (l.length - 2) = 1 by omega]
theorem schedT_eq (b : List Nat) (n : Nat) : ∀ k, schedT (schedS b k) n = schedS b (k + n) := by
  induction n with
  | zero => intro k; rfl
  | succ n ih => intro k; rw [schedT, show schedS b k ++ [nextS (schedS b k)] = schedS b (k + 1) from rfl, ih]; congr 1; omega
theorem length_schedS (b : List Nat) (n : Nat) : (schedS b n).length = 16 + n := by
  induction n with
  | zero => simp [schedS]
  | succ n ih => rw [schedS, List.length_append, ih]; rfl
theorem roundsF_eq (h ks ws : List Nat) (n : Nat) (hk : n = ks.length) (hw : n = ws.length) : roundsF h (ks.zip ws) = roundsS h ks ws n := by
  have key : ∀ (m i : Nat) (v : List Nat), i + m = n → v = roundsS h ks ws i → roundsF v ((ks.drop i).zip (ws.drop i)) = roundsS h ks ws n := by
    intro m
    induction m with
    | zero =>
      intro i v hi hv
      have : ks.drop i = [] := List.drop_eq_nil_of_le (by omega)
      rw [this, hv, show i = n by omega]
      rfl
    | succ m ih =>
      intro i v hi hv
      have h1 : i < ks.length := by omega
      have h2 : i < ws.length := by omega
      rw [List.drop_eq_getElem_cons h1, List.drop_eq_getElem_cons h2, List.zip_cons_cons, roundsF, forceL_eq]
      refine ih (i + 1) _ (by omega) ?_
      rw [roundsS, ← hv]
      congr 1 <;> simp [nth, h1, h2]
  have := key n 0 h (by omega) rfl
  simpa using this
theorem blockF_eq (h b : List Nat) : blockF h b = blockS h b := by
  rw [blockF, forceL_eq, forceL_eq, forceL_eq, blockS, schedF_eq _ _ (by simp), List.reverse_reverse]
  have e : schedT ((List.range 16).map (wordS4 b)) 48 = schedS b 48 := schedT_eq b 48 0
  rw [e, roundsF_eq h stepsS (schedS b 48) 64 rfl (by rw [length_schedS])]
theorem sha_one (m b h : List Nat) (hb : blocksS m = b) (hl : b.length = 64) (hh : blockF firstS b = h) : shaS m = bytesS h := by
  rw [shaS, hb, hl, show 64 / 64 = 0 + 1 from rfl, foldS, foldS, Nat.mul_zero, List.drop_zero, List.take_of_length_le (by omega), ← blockF_eq, hh]
theorem sha_none : shaS [] = [0xe3, 0xb0, 0xc4, 0x42, 0x98, 0xfc, 0x1c, 0x14, 0x9a, 0xfb, 0xf4, 0xc8, 0x99, 0x6f, 0xb9, 0x24, 0x27, 0xae, 0x41, 0xe4, 0x64, 0x9b, 0x93, 0x4c, 0xa4, 0x95, 0x99, 0x1b, 0x78, 0x52, 0xb8, 0x55] :=
  (sha_one [] (128 :: List.replicate 63 0) [0xe3b0c442, 0x98fc1c14, 0x9afbf4c8, 0x996fb924, 0x27ae41e4, 0x649b934c, 0xa495991b, 0x7852b855] (by decide +kernel) (by decide +kernel) (by decide +kernel)).trans (by decide +kernel)
theorem sha_abc : shaS [97, 98, 99] = [0xba, 0x78, 0x16, 0xbf, 0x8f, 0x01, 0xcf, 0xea, 0x41, 0x41, 0x40, 0xde, 0x5d, 0xae, 0x22, 0x23, 0xb0, 0x03, 0x61, 0xa3, 0x96, 0x17, 0x7a, 0x9c, 0xb4, 0x10, 0xff, 0x61, 0xf2, 0x00, 0x15, 0xad] :=
  (sha_one [97, 98, 99] (97 :: 98 :: 99 :: 128 :: (List.replicate 59 0 ++ [24])) [0xba7816bf, 0x8f01cfea, 0x414140de, 0x5dae2223, 0xb00361a3, 0x96177a9c, 0xb410ff61, 0xf20015ad] (by decide +kernel) (by decide +kernel) (by decide +kernel)).trans (by decide +kernel)
end Go.Proofs.YtjeliomjnalpcaaDoor
