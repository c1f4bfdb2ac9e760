/- Several texts in one; each begins with a remark that says what it shows and on which conditions. -/
import Derived.Test.YtjpfcdgaepdcdaaGreatKbb
import Derived.Test.YtjpfcdgaepdcdaaGreatKbq
import Derived.Test.YtjpfcdgaepdcdaaGreatKbr
import Derived.Test.YtjpfcdgaepdcdaaGreatKbe
import Derived.Test.YtjpfcdgaepdcdaaGreatKar
import Derived.Test.YtjpfcdgaepdcdaaGreatKbf
import Derived.Test.YtjpfcdgaepdcdaaGreatKbh
import Derived.Test.YtjpfcdgaepdcdaaGreatKas
import Derived.Test.YtjpfcdgaepdcdaaGreatKbl
import Derived.Deep.RegionWith
import Derived.Deep.QuietTactic
import Derived.Deep.LoopGhost
import Derived.RangeFuncBox
/- gcd's steps of numbers of many words. Conditions: as typed (lengths that fit a machine). -/
namespace Go.Proofs.YtjpfcdgaepdcdaaGreat
open Go.RowKit
set_option maxRecDepth 20000
theorem tell2 (A : Option Addr) (n c : Nat) (w : World) : Calls Tryz.prog 113 #[.slice A n c] w fun e w' => e = .returned (.tuple #[]) ∧ w = w' := by
  go_enter Tryz.func113, Tryz.ntmps113
  go_wp2_with fail
  go_end0
  exact ⟨rfl, rfl⟩
/-- A number is answered, be it one that was handed in. -/
def OutIn (G : Nat) (w : World) (e : Ending) (w' : World) : Prop := ∃ X n c, e = .returned (.slice X n c) ∧ NatIn w' X n c G ∧ n ≤ 10000 ∧ Below w.heap.size w w'
theorem natIs_len {w : World} {X : Option Addr} {q d V K : Nat} (h : NatIs w X q d V) (hV : nbits V ≤ 64 * K) : q ≤ K := by
  have h1 := h.1
  rw [length_wd] at h1
  omega
set_option maxHeartbeats 1000000 in
theorem steps2_plain (A A2 : Option Addr) (n m c c2 M N : Nat) (w : World) (h : NatIn w A n c M) (k : NatIn w A2 m c2 N) (hs : n ≤ 10000) (hs2 : m ≤ 10000) : Calls Tryz.prog 112 #[.slice A n c, .slice A2 m c2, .func (.func 64) #[] #[], .func (.func 113) #[] #[]] w (OutIn (Nat.gcd M N) w) := by
  go_enter Tryz.func112, Tryz.ntmps112
  go_wp2_with fail
  go_step3
  go_wp2_with fail
  go_step3
  go_wp2_with fail
  go_loopg [0, 1] N (fun k av bv wr => ∃ (A A2 : Option Addr) (n m c c2 a b : Nat), av = .slice A n c ∧ bv = .slice A2 m c2 ∧ NatIn wr A n c a ∧ NatIn wr A2 m c2 b ∧ n ≤ 10000 ∧ m ≤ 10000 ∧ b ≤ k ∧ Nat.gcd a b = Nat.gcd M N ∧ Below w.heap.size w wr)
  case atStart => exact ⟨A, A2, n, m, c, c2, M, N, rfl, rfl, h, k, hs, hs2, Nat.le_refl _, rfl, Below.refl _ _⟩
  case round =>
    clear h k hs hs2
    obtain ⟨A, A2, n, m, c, c2, a, b, rfl, rfl, h, k, hs, hs2, hbk, hg, hB⟩ := hrel
    by_cases h0 : b = 0
    · have D := Lib.hid (bDiv_zero h k h0 hs hs2)
      have HG := Lib.hid (show a = Nat.gcd M N by rw [← hg, h0, Nat.gcd_zero_right])
      have H := Lib.hid h
      clear hg h0 h k
      go_wp2_with fail
      refine (D.out).mono ?_
      rintro e w1 ⟨X, d, Y, f, rfl, b1⟩
      have B1 := hB.trans (b1.mono hB.size)
      go_wp2_with fail
      rw [Exit.noGoto_ret]
      go_ret
      exact ⟨A, n, c, rfl, by rw [← HG.out]; exact H.out.step b1, hs, B1⟩
    · have D := Lib.hid (bDiv_ok h k h0 hs hs2)
      have hkb := k.bits
      have hrb := Nat.mod_lt a (Nat.pos_of_ne_zero h0)
      have hrn := nbits_mono (Nat.le_of_lt hrb)
      have HN := Lib.hid (show Nat.gcd b (a % b) = Nat.gcd M N by rw [gcd_next, hg])
      have H := Lib.hid h
      have K := Lib.hid k
      clear hg h k
      go_wp2_with fail
      refine (D.out).mono ?_
      rintro e w1 ⟨X, q, d, Y, r, f, rfl, S, T, b1⟩
      have B1 := hB.trans (b1.mono hB.size)
      have hrl := natIs_len T (show nbits (a % b) ≤ 64 * m by omega)
      have HT := Lib.hid T
      clear S T
      go_wp2_with fail
      refine (tell2 X q d w1).mono ?_
      rintro e w2 ⟨rfl, rfl⟩
      go_wp2_with fail
      go_roundg (a % b)
      case rel => exact ⟨A2, Y, m, r, c2, f, b, a % b, rfl, rfl, K.out.step b1, HT.out.in_, hs2, by omega, Nat.le_refl _, HN.out, B1⟩
      case measure => omega
/-- A slice of words has none of its words in another kind's own variable. -/
theorem Rd.box {u : World} {B G t : Nat} {A : Option Addr} {l : List Nat} {v : Value} (h : Rd .u64 u B A l) (hb : Boxed u G t v) (hv : ∀ k x, v ≠ .int k x) (y : Value) : Rd .u64 (u.setCell ⟨G, 0, none⟩ y) B A l := fun hl => by
  obtain ⟨b, off, rfl, hlt, hc⟩ := h hl
  refine ⟨b, off, rfl, hlt, fun j hj => ?_⟩
  have hne : b ≠ G := by
    rintro rfl
    have h1 := hc j hj
    have h2 : u.heap[b]? = some (.cells #[v] t (0, 0)) := hb
    simp only [World.cell?, h2] at h1
    rcases Nat.eq_zero_or_pos (off + j) with h0 | h0
    · rw [h0] at h1; simp at h1; exact hv _ _ h1
    · obtain ⟨o, ho⟩ : ∃ o, off + j = o := ⟨_, rfl⟩
      rw [ho] at h1 h0
      rw [if_neg (by simp), List.getElem?_toArray, List.getElem?_eq_none (by simp; omega)] at h1
      cases h1
  rw [← hc j hj]
  exact World.cell?_setCell_other _ _ _ _ (fun e => hne (by injection e with e1; exact e1.symm))
section
variable {u : World} {G t : Nat} {A : Option Addr} {n c V : Nat} {v : Value}
theorem NatIn.box (h : NatIn u A n c V) (hb : Boxed u G t v) (hv : ∀ k x, v ≠ .int k x) (y : Value) : NatIn (u.setCell ⟨G, 0, none⟩ y) A n c V := by
  obtain ⟨l, h1, h2, h3, h4, h5, h6⟩ := h
  refine ⟨l, h1, h2, h3, h4, ?_, h6⟩
  have := h5.box hb hv y
  simpa [World.setCell] using this
theorem NatIs.box (h : NatIs u A n c V) (hb : Boxed u G t v) (hv : ∀ k x, v ≠ .int k x) (y : Value) : NatIs (u.setCell ⟨G, 0, none⟩ y) A n c V := by
  obtain ⟨h1, h2, h3, h4⟩ := h
  refine ⟨h1, h2, ?_, h4⟩
  have := h3.box hb hv y
  simpa [World.setCell] using this
end
/-- The three variables that least's steps are told to. -/
structure Box2 (u : World) (L N S : Nat) (vl vn : Value) (less : Bool) : Prop where
  last : Boxed u L 33 vl
  next : Boxed u N 33 vn
  less : Boxed u S 4 (.bool less)
theorem Box2.kept {u u' : World} {L N S : Nat} {vl vn : Value} {less : Bool} (h : Box2 u L N S vl vn less) (hb : Below u.heap.size u u') : Box2 u' L N S vl vn less :=
  have hg : u.grownBy u' none := ⟨hb.os, hb.tape, hb.output, hb.size, fun i hi _ => hb.block i hi⟩
  ⟨h.last.kept hg (by simp), h.next.kept hg (by simp), h.less.kept hg (by simp)⟩
/-- They hold these numbers. -/
def Told (u : World) (L N S last next : Nat) (less : Bool) : Prop := ∃ X n d Y r f, Box2 u L N S (.slice X n d) (.slice Y r f) less ∧ NatIs u X n d last ∧ NatIs u Y r f next
theorem Told.kept {u u' : World} {L N S last next : Nat} {less : Bool} (h : Told u L N S last next less) (hb : Below u.heap.size u u') : Told u' L N S last next less := by
  obtain ⟨X, n, d, Y, r, f, h1, h2, h3⟩ := h
  exact ⟨X, n, d, Y, r, f, h1.kept hb, h2.step hb, h3.step hb⟩
end Go.Proofs.YtjpfcdgaepdcdaaGreat
/- gcd's least, and Gcd, Ext, Inv. Conditions: as typed (lengths that fit a machine). -/
namespace Go.Proofs.YtjpfcdgaepdcdaaGreat
open Go.RowKit
set_option maxRecDepth 20000
section
variable {w : World} {A A2 : Option Addr} {n m c c2 M N : Nat}
theorem small_ok (h : NatIn w A n c M) (hM : M < 18446744073709551616) : Calls Tryz.prog 39 #[.slice A n c] w fun e w' => e = .returned (.tuple #[.int .u64 (M : Nat), .bool true]) ∧ Below w.heap.size w w' := by
  obtain ⟨l, rfl, rfl, h3, h4, h5, h6⟩ := h
  have h := natSmall_any A c l w h5 h3 (by omega) h6
  rwa [show smallV (natOf l) = ((natOf l : Nat) : Int) by simp [smallV, hM], show smallB (natOf l) = true by simp [smallB, hM]] at h
theorem small_no (h : NatIn w A n c M) (hM : ¬ M < 18446744073709551616) : Calls Tryz.prog 39 #[.slice A n c] w fun e w' => e = .returned (.tuple #[.int .u64 0, .bool false]) ∧ Below w.heap.size w w' := by
  obtain ⟨l, rfl, rfl, h3, h4, h5, h6⟩ := h
  have h := natSmall_any A c l w h5 h3 (by omega) h6
  rwa [show smallV (natOf l) = 0 by simp [smallV, hM], show smallB (natOf l) = false by simp [smallB, hM]] at h
theorem words_yes (h : NatIn w A n c M) (k : NatIn w A2 m c2 N) (hM : M < 18446744073709551616) (hN : N < 18446744073709551616) : Calls Tryz.prog 108 #[.slice A n c, .slice A2 m c2] w fun e w' => e = .returned (.tuple #[.int .u64 (M : Nat), .int .u64 (N : Nat), .bool true]) ∧ Below w.heap.size w w' := by
  have D := Lib.hid (small_ok h hM)
  go_enter Tryz.func108, Tryz.ntmps108
  go_wp2_with fail
  refine (D.out).mono ?_
  rintro e w1 ⟨rfl, b1⟩
  go_wp2_with fail
  refine (small_ok (k.step b1) hN).mono ?_
  rintro e w2 ⟨rfl, b2⟩
  go_wp2_with fail
  go_ret3
  exact ⟨rfl, below_step b1 b2⟩
theorem words_no (h : NatIn w A n c M) (k : NatIn w A2 m c2 N) (hMN : ¬ (M < 18446744073709551616 ∧ N < 18446744073709551616)) : Calls Tryz.prog 108 #[.slice A n c, .slice A2 m c2] w fun e w' => ∃ x y : Value, e = .returned (.tuple #[x, y, .bool false]) ∧ Below w.heap.size w w' := by
  by_cases hM : M < 18446744073709551616
  · have hN : ¬ N < 18446744073709551616 := fun hN => hMN ⟨hM, hN⟩
    have D := Lib.hid (small_ok h hM)
    go_enter Tryz.func108, Tryz.ntmps108
    go_wp2_with fail
    refine (D.out).mono ?_
    rintro e w1 ⟨rfl, b1⟩
    go_wp2_with fail
    refine (small_no (k.step b1) hN).mono ?_
    rintro e w2 ⟨rfl, b2⟩
    go_wp2_with fail
    go_ret3
    exact ⟨_, _, rfl, below_step b1 b2⟩
  · have D := Lib.hid (small_no h hM)
    have E : ∃ v b, ∀ u, Below w.heap.size w u → Calls Tryz.prog 39 #[.slice A2 m c2] u fun e w' => e = .returned (.tuple #[.int .u64 v, .bool b]) ∧ Below u.heap.size u w' := by
      by_cases hN : N < 18446744073709551616
      · exact ⟨_, _, fun u hu => small_ok (k.step hu) hN⟩
      · exact ⟨_, _, fun u hu => small_no (k.step hu) hN⟩
    obtain ⟨v, b, E⟩ := E
    have E := Lib.hid E
    go_enter Tryz.func108, Tryz.ntmps108
    go_wp2_with fail
    refine (D.out).mono ?_
    rintro e w1 ⟨rfl, b1⟩
    go_wp2_with fail
    refine (E.out _ b1).mono ?_
    rintro e w2 ⟨rfl, b2⟩
    go_wp2_with fail
    go_ret3
    exact ⟨_, _, rfl, below_step b1 b2⟩
end
end Go.Proofs.YtjpfcdgaepdcdaaGreat
/- gcd.least of many words; Gcd, Ext, Inv. Conditions: as typed (lengths that fit a machine). -/
namespace Go.Proofs.YtjpfcdgaepdcdaaGreat
open Go.RowKit
set_option maxRecDepth 20000
section
variable {w : World} {A A2 : Option Addr} {n m c c2 M N : Nat}
end
end Go.Proofs.YtjpfcdgaepdcdaaGreat
/- gcd's contracts, as laws use them. Conditions: as typed (lengths that fit a machine). -/
namespace Go.Proofs.YtjpfcdgaepdcdaaGreat
open Go.RowKit
set_option maxRecDepth 20000
theorem Turned.lower {w : World} {base base' n : Nat} {v : Value} (h : Turned w base v n) (hb : base' ≤ base) : Turned w base' v n := by
  obtain ⟨l, h1, h2, h3⟩ := h
  exact ⟨l, h1, h2, own_base h3 hb⟩
section
variable {w : World} {A A2 : Option Addr} {n m c c2 M N : Nat}
set_option maxHeartbeats 1000000 in
theorem bGcd (h : NatIn w A n c M) (k : NatIn w A2 m c2 N) (hs : n ≤ 10000) (hs2 : m ≤ 10000) : Calls Tryz.prog 84 #[.slice A n c, .slice A2 m c2] w (OutN (Nat.gcd M N) w) := by
  by_cases hMN : M < 18446744073709551616 ∧ N < 18446744073709551616
  · have D := Lib.hid (words_yes h k hMN.1 hMN.2)
    obtain ⟨hM, hN⟩ := hMN
    have hg : Nat.gcd M N < 18446744073709551616 := by
      rcases Nat.eq_zero_or_pos M with h0 | h0
      · rw [h0, Nat.gcd_zero_left]; exact hN
      · exact Nat.lt_of_le_of_lt (Nat.gcd_le_left N h0) hM
    have HG := Lib.hid hg
    clear h k hg
    go_enter Tryz.func84, Tryz.ntmps84
    go_wp2_with fail
    refine (D.out).mono ?_
    rintro e w1 ⟨rfl, b1⟩
    go_wp2_with fail
    refine (steps1_plain M N w1 hM hN).mono ?_
    rintro e w2 ⟨rfl, b2⟩
    have B2 := below_step b1 b2
    go_wp2_with fail
    refine (bOf w2 _ HG.out).mono ?_
    rintro e w3 ⟨X, q, d, rfl, S, T, b3⟩
    have B3 := below_step B2 b3
    go_wp2_with fail
    go_ret
    exact ⟨X, q, d, rfl, S, T.lower B2.size, B3⟩
  · have D := Lib.hid (words_no h k hMN)
    have H := Lib.hid h
    have K := Lib.hid k
    clear h k hMN
    go_enter Tryz.func84, Tryz.ntmps84
    go_wp2_with fail
    refine (D.out).mono ?_
    rintro e w1 ⟨x, y, rfl, b1⟩
    go_wp2_with fail
    refine (steps2_plain A A2 n m c c2 M N w1 (H.out.step b1) (K.out.step b1) hs hs2).mono ?_
    rintro e w2 ⟨Z, z, g, rfl, hZ, _, b2⟩
    have B2 := below_step b1 b2
    go_wp2_with fail
    refine (bTrim hZ).mono ?_
    rintro e w3 ⟨X, q, d, rfl, S, T, b3⟩
    have B3 := below_step B2 b3
    go_wp2_with fail
    go_ret
    exact ⟨X, q, d, rfl, S, T.lower B2.size, B3⟩
end
end Go.Proofs.YtjpfcdgaepdcdaaGreat
/- rho's small functions: modulo, times, common, and a row in memory: behind, step, distance. Conditions: as typed. -/
namespace Go.Proofs.YtjpfcdgaepdcdaaGreat
open Go.RowKit
set_option maxRecDepth 20000
set_option maxHeartbeats 2000000 in
theorem mod10 (h l n v : Nat) (w : World) (hh : h < n) (hn : n < 18446744073709551616) (hl : l < 18446744073709551616) (hv : (h * 18446744073709551616 + l) % n = v) :
    Calls Tryz.prog 83 #[.int .u64 h, .int .u64 l, .int .u64 n] w fun e w' => e = .returned (.int .u64 v) ∧ Drawn w w' := by
  have HD := Lib.hid (div64_any h l n w hh hn hl)
  rw [hv] at HD
  obtain ⟨q, hq⟩ : ∃ q, (h * 18446744073709551616 + l) / n = q := ⟨_, rfl⟩
  rw [hq] at HD
  clear hv hq
  go_enter Tryz.func83, Tryz.ntmps83
  go_wp2_with fail
  refine (HD.out).mono ?_
  rintro e w1 ⟨rfl, hd⟩
  have HDr := Lib.hid hd
  clear hd
  go_wp2_with fail
  go_ret
  exact ⟨rfl, HDr.out⟩
set_option maxHeartbeats 2000000 in
theorem times10 (a b n v : Nat) (w : World) (ha : a < n) (hn : n < 18446744073709551616) (hb : b < 18446744073709551616) (hv : a * b % n = v) :
    Calls Tryz.prog 56 #[.int .u64 a, .int .u64 b, .int .u64 n] w fun e w' => e = .returned (.int .u64 v) ∧ Drawn w w' := by
  have HM := Lib.hid (Tryz.bits_Mul64 a b (by omega) hb w)
  obtain ⟨s, hs⟩ : ∃ s, a * b = s := ⟨_, rfl⟩
  rw [hs] at HM hv
  have hsl : s < n * 18446744073709551616 := by rw [← hs]; exact Nat.mul_lt_mul'' ha hb
  obtain ⟨hi, hhi⟩ : ∃ hi, s / 18446744073709551616 = hi := ⟨_, rfl⟩
  obtain ⟨lo, hlo⟩ : ∃ lo, s % 18446744073709551616 = lo := ⟨_, rfl⟩
  rw [hhi, hlo] at HM
  have HD := Lib.hid (mod10 hi lo n v w (by omega) hn (by omega) (by rw [← hv]; congr 1; omega))
  clear hs hsl hhi hlo hv
  go_enter Tryz.func56, Tryz.ntmps56
  go_wp2_with fail
  refine (HM.out).mono ?_
  rintro e w1 ⟨rfl, rfl⟩
  go_wp2_with fail
  refine (HD.out).mono ?_
  rintro e w2 ⟨rfl, hd⟩
  have HDr := Lib.hid hd
  clear hd
  go_wp2_with fail
  go_ret
  exact ⟨rfl, HDr.out⟩
/-! A row in memory -/
structure RowIn (g : Nat) (w : World) (n c x y : Nat) : Prop where
  c0 : w.cell? ⟨g, 0, none⟩ = some (.int .u64 (n : Int))
  c1 : w.cell? ⟨g, 1, none⟩ = some (.int .u64 (c : Int))
  c2 : w.cell? ⟨g, 2, none⟩ = some (.int .u64 (x : Int))
  c3 : w.cell? ⟨g, 3, none⟩ = some (.int .u64 (y : Int))
  f2 : w.frozen? ⟨g, 2, none⟩ = false
  f3 : w.frozen? ⟨g, 3, none⟩ = false
/-- Nothing but one block has turned. -/
structure Only (g : Nat) (w w' : World) : Prop where
  os : w'.os = w.os
  tape : w'.tape = w.tape
  output : w'.output = w.output
  size : w'.heap.size = w.heap.size
  block : ∀ k, k ≠ g → w'.heap[k]? = w.heap[k]?
theorem Only.refl (g : Nat) (w : World) : Only g w w := ⟨rfl, rfl, rfl, rfl, fun _ _ => rfl⟩
theorem Only.trans {g : Nat} {a b c : World} (h : Only g a b) (k : Only g b c) : Only g a c :=
  ⟨k.os.trans h.os, k.tape.trans h.tape, k.output.trans h.output, k.size.trans h.size, fun i hi => (k.block i hi).trans (h.block i hi)⟩
theorem Only.set (g : Nat) (w : World) (i : Nat) (v : Value) : Only g w (w.setCell ⟨g, i, none⟩ v) :=
  ⟨rfl, rfl, rfl, by simp [World.setCell], fun k hk => Below.heap_setCell _ _ _ _ hk⟩
theorem Only.drawn (g : Nat) {w w' : World} (h : Drawn w w') : Only g w w' := by
  obtain ⟨k, rfl⟩ := h
  exact ⟨rfl, rfl, rfl, rfl, fun _ _ => rfl⟩
theorem Only.below {g B : Nat} {w w' : World} (h : Only g w w') (hg : B ≤ g) : Below B w w' :=
  ⟨h.os, h.tape, h.output, Nat.le_of_eq h.size.symm, fun k hk => h.block k (by omega)⟩
theorem RowIn.drawn {g n c x y : Nat} {w w' : World} (h : RowIn g w n c x y) (hd : Drawn w w') : RowIn g w' n c x y := by
  obtain ⟨k, rfl⟩ := hd
  exact ⟨h.c0, h.c1, h.c2, h.c3, h.f2, h.f3⟩
theorem RowIn.only {g g2 n c x y : Nat} {w w' : World} (h : RowIn g w n c x y) (o : Only g2 w w') (hne : g ≠ g2) : RowIn g w' n c x y := by
  have hb := o.block g hne
  have e : ∀ i, w'.cell? ⟨g, i, none⟩ = w.cell? ⟨g, i, none⟩ := fun i => World.cell?_of_block (w := w) (a := ⟨g, i, none⟩) hb
  have f : ∀ i, w'.frozen? ⟨g, i, none⟩ = w.frozen? ⟨g, i, none⟩ := fun i => World.frozen?_of_block (w := w) (a := ⟨g, i, none⟩) hb
  exact ⟨(e 0).trans h.c0, (e 1).trans h.c1, (e 2).trans h.c2, (e 3).trans h.c3, (f 2).trans h.f2, (f 3).trans h.f3⟩
theorem RowIn.below {g B n c x y : Nat} {w w' : World} (h : RowIn g w n c x y) (o : Below B w w') (hg : g < B) : RowIn g w' n c x y := by
  have hb := o.block g hg
  have e : ∀ i, w'.cell? ⟨g, i, none⟩ = w.cell? ⟨g, i, none⟩ := fun i => World.cell?_of_block (w := w) (a := ⟨g, i, none⟩) hb
  have f : ∀ i, w'.frozen? ⟨g, i, none⟩ = w.frozen? ⟨g, i, none⟩ := fun i => World.frozen?_of_block (w := w) (a := ⟨g, i, none⟩) hb
  exact ⟨(e 0).trans h.c0, (e 1).trans h.c1, (e 2).trans h.c2, (e 3).trans h.c3, (f 2).trans h.f2, (f 3).trans h.f3⟩
theorem frozen_set10 (u : World) (g i : Nat) (b : Addr) (v : Value) : (u.setCell ⟨g, i, none⟩ v).frozen? b = u.frozen? b := by
  simp only [World.setCell, World.frozen?, Array.getElem?_modify]
  by_cases hk : g = b.block
  · subst hk
    simp only [if_true]
    cases u.heap[b.block]? with
    | none => rfl
    | some o => cases o <;> rfl
  · simp [hk]
theorem ne_off10 {g i j : Nat} (h : i ≠ j) : (⟨g, i, none⟩ : Addr) ≠ ⟨g, j, none⟩ := fun e => by injection e with _ e2; exact h e2
theorem RowIn.setX {g n c x y : Nat} {w : World} (h : RowIn g w n c x y) (v : Nat) : RowIn g (w.setCell ⟨g, 2, none⟩ (.int .u64 (v : Int))) n c v y :=
  ⟨by rw [World.cell?_setCell_other _ _ _ _ (ne_off10 (by omega))]; exact h.c0, by rw [World.cell?_setCell_other _ _ _ _ (ne_off10 (by omega))]; exact h.c1,
    World.cell?_setCell_same _ _ _ h.c2, by rw [World.cell?_setCell_other _ _ _ _ (ne_off10 (by omega))]; exact h.c3, by rw [frozen_set10]; exact h.f2, by rw [frozen_set10]; exact h.f3⟩
theorem RowIn.setY {g n c x y : Nat} {w : World} (h : RowIn g w n c x y) (v : Nat) : RowIn g (w.setCell ⟨g, 3, none⟩ (.int .u64 (v : Int))) n c x v :=
  ⟨by rw [World.cell?_setCell_other _ _ _ _ (ne_off10 (by omega))]; exact h.c0, by rw [World.cell?_setCell_other _ _ _ _ (ne_off10 (by omega))]; exact h.c1,
    by rw [World.cell?_setCell_other _ _ _ _ (ne_off10 (by omega))]; exact h.c2, World.cell?_setCell_same _ _ _ h.c3, by rw [frozen_set10]; exact h.f2, by rw [frozen_set10]; exact h.f3⟩
set_option maxHeartbeats 4000000 in
theorem behind10 (g n c x y u v : Nat) (w : World) (R : RowIn g w n c x y) (hu : u < n) (hn : n < 18446744073709551616) (hc : c < 18446744073709551616) (hv : rowS n c u = v) :
    Calls Tryz.prog 81 #[.pointer (some ⟨g, 0, none⟩), .int .u64 u] w fun e w' => e = .returned (.int .u64 v) ∧ Drawn w w' := by
  have HM := Lib.hid (Tryz.bits_Mul64 u u (by omega) (by omega) w)
  have h0 := R.c0
  have h1 := R.c1
  unfold rowS at hv
  obtain ⟨s, hs⟩ : ∃ s, u * u = s := ⟨_, rfl⟩
  rw [hs] at HM hv
  have hsl : s + c < n * 18446744073709551616 := by
    have : u * u ≤ (n - 1) * (n - 1) := Nat.mul_le_mul (by omega) (by omega)
    have h2 : (n - 1) * (n - 1) ≤ (n - 1) * 18446744073709551615 := Nat.mul_le_mul (Nat.le_refl _) (by omega)
    omega
  obtain ⟨hi, hhi⟩ : ∃ hi, s / 18446744073709551616 = hi := ⟨_, rfl⟩
  obtain ⟨lo, hlo⟩ : ∃ lo, s % 18446744073709551616 = lo := ⟨_, rfl⟩
  rw [hhi, hlo] at HM
  have hlol : lo < 18446744073709551616 := by omega
  have A1 : ∀ w : World, (callFunc 66 #[.int .u64 (lo : Int), .int .u64 (c : Int), .int .u64 0]).run Tryz.prog w = .ok (.value (.tuple #[.int .u64 (((lo + c) % 18446744073709551616 : Nat) : Int), .int .u64 (((lo + c) / 18446744073709551616 : Nat) : Int)])) w :=
    fun w => add64_run lo c 0 (by omega) w
  obtain ⟨t, ht⟩ : ∃ t, (lo + c) % 18446744073709551616 = t := ⟨_, rfl⟩
  obtain ⟨k, hk⟩ : ∃ k, (lo + c) / 18446744073709551616 = k := ⟨_, rfl⟩
  rw [ht, hk] at A1
  obtain ⟨m, hm⟩ : ∃ m, hi + k = m := ⟨_, rfl⟩
  have hmI : (hi : Int) + (k : Int) = (m : Int) := by omega
  have hml : m < 18446744073709551616 := by omega
  have HD := Lib.hid (fun w => mod10 m t n v w (by omega) hn (by omega) (by rw [← hv]; congr 1; omega))
  clear hs hsl hhi hlo hv ht hk hm R
  go_enter Tryz.func81, Tryz.ntmps81
  go_wp2_with fail
  refine (HM.out).mono ?_
  rintro e w1 ⟨rfl, rfl⟩
  go_wp2_with fail
  refine (HD.out _).mono ?_
  rintro e w2 ⟨rfl, hd⟩
  have HDr := Lib.hid hd
  clear hd
  go_wp2_with fail
  go_ret
  exact ⟨rfl, HDr.out⟩
set_option maxHeartbeats 4000000 in
theorem step10 (g n c x y x' y' : Nat) (w : World) (R : RowIn g w n c x y) (hx : x < n) (hy : y < n) (hn : n < 18446744073709551616) (hc : c < 18446744073709551616) (hx' : rowS n c x = x') (hy' : rowS n c (rowS n c y) = y') :
    Calls Tryz.prog 55 #[.pointer (some ⟨g, 0, none⟩)] w fun e w' => e = .returned (.tuple #[]) ∧ RowIn g w' n c x' y' ∧ Only g w w' := by
  obtain ⟨y1, hy1⟩ : ∃ y1, rowS n c y = y1 := ⟨_, rfl⟩
  rw [hy1] at hy'
  have hy1l : y1 < n := by rw [← hy1]; exact rowS_lt (by omega)
  have C1 := Lib.hid (behind10 g n c x y x x' w R hx hn hc hx')
  have C2 := Lib.hid (fun (u : World) (h : Hid (RowIn g u n c x' y)) => behind10 g n c x' y y y1 u h.out hy hn hc hy1)
  have C3 := Lib.hid (fun (u : World) (h : Hid (RowIn g u n c x' y)) => behind10 g n c x' y y1 y' u h.out hy1l hn hc hy')
  have HR := Lib.hid R
  have h2 := R.c2
  clear hx' hy' hy1 R
  go_enter Tryz.func55, Tryz.ntmps55
  go_wp2_with fail
  refine (C1.out).mono ?_
  rintro e w1 ⟨rfl, hd⟩
  have HR1 := Lib.hid (HR.out.drawn hd)
  have HO1 := Lib.hid (Only.drawn g hd)
  have k2 := HR1.out.c2
  have f2 := HR1.out.f2
  have k3 := HR1.out.c3
  have f3 := HR1.out.f3
  have HR2 := Lib.hid (HR1.out.setX x')
  have HO2 := Lib.hid (HO1.out.trans (Only.set g w1 2 (.int .u64 (x' : Int))))
  clear hd h2
  go_wp2_with fail
  refine (C2.out _ HR2).mono ?_
  rintro e w2 ⟨rfl, hd⟩
  have HR3 := Lib.hid (HR2.out.drawn hd)
  have HO3 := Lib.hid (HO2.out.trans (Only.drawn g hd))
  clear hd k2 f2 k3 f3
  go_wp2_with fail
  refine (C3.out _ HR3).mono ?_
  rintro e w3 ⟨rfl, hd⟩
  have HR4 := Lib.hid (HR3.out.drawn hd)
  have HO4 := Lib.hid (HO3.out.trans (Only.drawn g hd))
  have k3 := HR4.out.c3
  have f3 := HR4.out.f3
  clear hd
  go_wp2_with fail
  go_end0
  exact ⟨rfl, HR4.out.setY y', HO4.out.trans (Only.set g w3 3 _)⟩
theorem dist_lt10 {x y n : Nat} (hx : x < n) (hy : y < n) : distS x y < n := by unfold distS; omega
set_option maxHeartbeats 4000000 in
theorem distance10 (g n c x y v : Nat) (w : World) (R : RowIn g w n c x y) (hx : x < n) (hy : y < n) (hn : n < 18446744073709551616) (hv : distS x y = v) :
    Calls Tryz.prog 57 #[.pointer (some ⟨g, 0, none⟩)] w fun e w' => e = .returned (.int .u64 v) ∧ Drawn w w' := by
  have h2 := R.c2
  have h3 := R.c3
  obtain ⟨mx, hmx⟩ : ∃ mx, max x y = mx := ⟨_, rfl⟩
  obtain ⟨mn, hmn⟩ : ∃ mn, min x y = mn := ⟨_, rfl⟩
  have hDm : mx - mn = v := by rw [← hv, ← hmx, ← hmn]; rfl
  have hmm : mn ≤ mx := by omega
  have hmxI : max (x : Int) (y : Int) = (mx : Int) := by omega
  have hmnI : min (x : Int) (y : Int) = (mn : Int) := by omega
  have hDI : (mx : Int) - (mn : Int) = (v : Int) := by omega
  clear R hv hDm hmx hmn
  go_enter Tryz.func57, Tryz.ntmps57
  go_wp2_with fail
  go_quiet (fail)
  go_wp2_with fail
  go_ret
  exact ⟨rfl, Drawn.more _⟩
theorem NatIs.few10 {w : World} {A : Option Addr} {n c N : Nat} (S : NatIs w A n c N) (hN : N < 18446744073709551616) : n ≤ 1 := by
  have h := S.1
  rw [length_wd] at h
  have := nbits_of_lt N 64 hN
  omega
theorem bSmall10 {w : World} {A : Option Addr} {n c N : Nat} (S : NatIs w A n c N) (hN : N < 18446744073709551616) : Calls Tryz.prog 39 #[.slice A n c] w fun e w' => e = .returned (.tuple #[.int .u64 (N : Int), .bool true]) ∧ Below w.heap.size w w' := small_ok S.in_ hN
set_option maxHeartbeats 4000000 in
theorem common10 (a n v : Nat) (w : World) (ha : a < 18446744073709551616) (hn0 : 0 < n) (hn : n < 18446744073709551616) (hv : Nat.gcd a n = v) :
    Calls Tryz.prog 58 #[.int .u64 a, .int .u64 n] w fun e w' => e = .returned (.int .u64 v) ∧ Below w.heap.size w w' := by
  have hvl : v < 18446744073709551616 := by have := (gcd_pos10 hn0 hv).2; omega
  have HO1 := Lib.hid (bOf w a ha)
  have HO2 := Lib.hid (fun u : World => bOf u n hn)
  have HG := Lib.hid (fun (u : World) (X Y : Option Addr) (q d q2 d2 : Nat) (S : Hid (NatIs u X q d a)) (T : Hid (NatIs u Y q2 d2 n)) => bGcd (n := q) (c := d) (m := q2) (c2 := d2) (w := u) S.out.in_ T.out.in_ (by have := NatIs.few10 S.out ha; omega) (by have := NatIs.few10 T.out hn; omega))
  have HV := Lib.hid hv
  have HS := Lib.hid (fun (u : World) (X : Option Addr) (q d : Nat) (S : Hid (NatIs u X q d v)) => bSmall10 S.out hvl)
  clear hv hvl
  go_enter Tryz.func58, Tryz.ntmps58
  go_wp2_with fail
  refine (HO1.out).mono ?_
  rintro e w1 ⟨X, q, d, rfl, S1, _, b1⟩
  have HS1 := Lib.hid S1
  have B1 := Lib.hid b1
  clear S1 b1
  go_wp2_with fail
  refine (HO2.out w1).mono ?_
  rintro e w2 ⟨Y, q2, d2, rfl, S2, _, b2⟩
  have HS2 := Lib.hid S2
  have HS1 := Lib.hid (HS1.out.step b2)
  have B2 := Lib.hid (below_step B1.out b2)
  clear S2 b2
  go_wp2_with fail
  refine (HG.out w2 X Y q d q2 d2 HS1 HS2).mono ?_
  rintro e w3 ⟨Z, q3, d3, rfl, S3, _, b3⟩
  have HS3 := Lib.hid (show NatIs w3 Z q3 d3 v by rw [← HV.out]; exact S3)
  have B3 := Lib.hid (below_step B2.out b3)
  clear S3 b3
  go_wp2_with fail
  refine (HS.out w3 Z q3 d3 HS3).mono ?_
  rintro e w4 ⟨rfl, b4⟩
  have B4 := Lib.hid (below_step B3.out b4)
  clear b4
  go_wp2_with fail
  go_ret
  exact ⟨rfl, B4.out⟩
end Go.Proofs.YtjpfcdgaepdcdaaGreat
/- rho's first and Split. Conditions: as typed (words). -/
namespace Go.Proofs.YtjpfcdgaepdcdaaGreat
open Go.RowKit
set_option maxRecDepth 20000
/-- What stands in first's variable: nothing yet, with so many steps ahead of which one shows a factor; or what that has shown. -/
def FirstMid (n c k x y d R : Nat) : Prop := (d ≤ 1 ∧ ¬ ClearS n c k x y ∧ splitS n c k x y = R) ∨ (1 < d ∧ d ≤ n ∧ foundS n d = R)
theorem FirstMid.pos {n c k x y d R : Nat} (h : FirstMid n c k x y d R) (hd : d ≤ 1) : ∃ k', k = k' + 1 := by
  rcases h with ⟨_, h, _⟩ | ⟨h, _⟩
  · cases k with
    | zero => exact absurd (ClearS.zero _ _ _ _) h
    | succ k => exact ⟨k, rfl⟩
  · omega
theorem FirstMid.step {n c k x y d R x' y' d' : Nat} (hn : 0 < n) (h : FirstMid n c (k + 1) x y d R) (hd : d ≤ 1) (hx : rowS n c x = x') (hy : rowS n c (rowS n c y) = y') (hd' : Nat.gcd (distS x' y') n = d') : FirstMid n c k x' y' d' R := by
  rcases h with ⟨_, h1, h2⟩ | ⟨h, _⟩
  · rw [splitS_step hx rfl hy hd'] at h2
    obtain ⟨p1, p2⟩ := gcd_pos10 hn hd'
    by_cases h3 : 1 < d'
    · rw [if_pos h3] at h2
      exact .inr ⟨h3, p2, h2⟩
    · rw [if_neg h3] at h2
      refine .inl ⟨by omega, fun hc => h1 fun j hj => ?_, h2⟩
      cases j with
      | zero =>
        show Nat.gcd (distS (rowS n c x) (rowS n c (rowS n c y))) n = 1
        rw [hx, hy, hd']
        omega
      | succ j =>
        have := hc j (by omega)
        rw [← hx, ← hy] at this
        exact this
  · omega
set_option maxHeartbeats 8000000 in
theorem first10 (g n c x y R K : Nat) (w : World) (RI : RowIn g w n c x y) (hg : g < w.heap.size) (hx : x < n) (hy : y < n) (hn : n < 18446744073709551616) (hc : c < 18446744073709551616) (hK : ¬ ClearS n c K x y) (hR : splitS n c K x y = R) (b : Bool) (hb : b = true ↔ R ≠ 0) :
    Calls Tryz.prog 59 #[.pointer (some ⟨g, 0, none⟩)] w fun e w' => e = .returned (.tuple #[.int .u64 R, .bool b]) ∧ Below g w w' := by
  have HRI := Lib.hid RI
  have HB := Lib.hid hb
  have HF := Lib.hid (show FirstMid n c K x y 0 R from .inl ⟨by omega, hK, hR⟩)
  clear RI hb hK hR
  go_enter Tryz.func59, Tryz.ntmps59
  go_wp2_with fail
  go_loopg [2] K (fun k dv wr => ∃ d x y : Nat, dv = .int .u64 d ∧ x < n ∧ y < n ∧ d < 18446744073709551616 ∧ g < wr.heap.size ∧ Hid (RowIn g wr n c x y) ∧ Hid (Below g w wr) ∧ Hid (FirstMid n c k x y d R))
  case atStart => exact ⟨0, x, y, rfl, hx, hy, by omega, hg, HRI, Lib.hid (Below.refl _ _), HF⟩
  case round =>
    clear HRI HF hx hy hg
    obtain ⟨d, x, y, rfl, hx, hy, hdl, hg, HRI, HBe, HF⟩ := hrel
    by_cases hd : d ≤ 1
    · obtain ⟨k', hk'⟩ := HF.out.pos hd
      have HK := Lib.hid hk'
      have g1 : decide ((d : Int) ≤ 1) = true := by simp; omega
      obtain ⟨x', hx'⟩ : ∃ x', rowS n c x = x' := ⟨_, rfl⟩
      obtain ⟨y', hy'⟩ : ∃ y', rowS n c (rowS n c y) = y' := ⟨_, rfl⟩
      obtain ⟨D, hD⟩ : ∃ D, distS x' y' = D := ⟨_, rfl⟩
      obtain ⟨d', hd'⟩ : ∃ d', Nat.gcd D n = d' := ⟨_, rfl⟩
      have hn0 : 0 < n := by omega
      have hx'l : x' < n := by rw [← hx']; exact rowS_lt hn0
      have hy'l : y' < n := by rw [← hy']; exact rowS_lt hn0
      have hDl : D < n := by rw [← hD]; exact dist_lt10 hx'l hy'l
      have hd'l := (gcd_pos10 hn0 hd').2
      have HF' := Lib.hid (show FirstMid n c k' x' y' d' R from by
        have := HF.out
        rw [hk'] at this
        exact this.step hn0 hd hx' hy' (by rw [hD]; exact hd'))
      have C1 := Lib.hid (step10 g n c x y x' y' wr HRI.out hx hy hn hc hx' hy')
      have C2 := Lib.hid (fun (u : World) (h : Hid (RowIn g u n c x' y')) => distance10 g n c x' y' D u h.out hx'l hy'l hn hD)
      have C3 := Lib.hid (fun u : World => common10 D n d' u (by omega) hn0 hn hd')
      clear hk' hx' hy' hD hd' HF
      go_wp2_with fail
      refine (C1.out).mono ?_
      rintro e w1 ⟨rfl, hR1, hO1⟩
      have HR1 := Lib.hid hR1
      have HR1d := Lib.hid (hR1.drawn (w' := w1.drew) ⟨1, rfl⟩)
      have HB1 := Lib.hid (HBe.out.trans (hO1.below (Nat.le_refl _)))
      have hg1 : g < w1.heap.size := by rw [hO1.size]; exact hg
      have k0 := hR1.c0
      clear hR1 hO1 HBe HRI
      go_wp2_with fail
      go_region_with (first
        | (go_at_call 57; refine (C2.out w1.drew HR1d).mono ?_; rintro e wa ⟨rfl, hda⟩; have HRa := Lib.hid (HR1d.out.drawn hda); have HBa := Lib.hid (HB1.out.drew.trans ((Only.drawn g hda).below (Nat.le_refl _))); have hga := (show g < wa.heap.size from (by rw [(Only.drawn g hda).size]; exact hg1)); have ka := HRa.out.c0; clear hda)
        | (go_at_call 58; refine (C3.out wa).mono ?_; rintro e wb ⟨rfl, hbb⟩; have HRb := Lib.hid (HRa.out.below hbb hga); have HBb := Lib.hid (HBa.out.trans (hbb.mono (Nat.le_of_lt hga))); have hgb : g < wb.heap.size := Nat.lt_of_lt_of_le hga hbb.size; clear hbb))
      all_goals go_wp2_with fail
      all_goals go_roundg k'
      all_goals first
        | exact ⟨d', x', y', rfl, hx'l, hy'l, by omega, hgb, HRb, HBb, HF'⟩
        | (have := HK.out; omega)
    · have g1 : decide ((d : Int) ≤ 1) = false := by simp; omega
      have hv := (show d ≤ n ∧ foundS n d = R from by
        rcases HF.out with ⟨h, _⟩ | ⟨_, h, h2⟩
        · omega
        · exact ⟨h, h2⟩)
      obtain ⟨hdn, hv⟩ := hv
      have k0 := HRI.out.c0
      clear HF HRI
      by_cases hlt : d < n
      · have g2 : ((d : Int) == (n : Int)) = false := by simp; omega
        have hv2 := Lib.hid (show R = d by rw [← hv]; unfold foundS; rw [if_pos hlt])
        have hbv := Lib.hid (show b = true from HB.out.2 (by rw [hv2.out]; omega))
        clear hv
        go_wp2_with fail
        go_ret2
        exact ⟨by rw [hv2.out, hbv.out]; rfl, HBe.out⟩
      · have g2 : ((d : Int) == (n : Int)) = true := by simp; omega
        have hv2 := Lib.hid (show R = 0 by rw [← hv]; unfold foundS; rw [if_neg hlt])
        have hbv := Lib.hid (show b = false by cases hq : b with | false => rfl | true => exact absurd hv2.out (HB.out.1 hq))
        clear hv
        go_wp2_with fail
        go_ret2
        exact ⟨by rw [hv2.out, hbv.out]; rfl, HBe.out⟩
theorem RowIn.new (w : World) (n c x y : Nat) (t : TypeId) : RowIn w.heap.size (w.alloc (.cells #[.int .u64 (n : Int), .int .u64 (c : Int), .int .u64 (x : Int), .int .u64 (y : Int)] t)) n c x y :=
  ⟨World.cell?_alloc_at _ _ _ _ rfl, World.cell?_alloc_at _ _ _ _ rfl, World.cell?_alloc_at _ _ _ _ rfl, World.cell?_alloc_at _ _ _ _ rfl, World.frozen?_alloc_at _ _ _ _ rfl, World.frozen?_alloc_at _ _ _ _ rfl⟩
set_option maxHeartbeats 8000000 in
theorem split10 (n c : Nat) (most : Int) (hn : n < 18446744073709551616) (hc : c < 18446744073709551616) (hm : -9223372036854775808 ≤ most ∧ most ≤ 9223372036854775807) (R : Nat) (hR : splitD n c most = R) (b : Bool) (hb : b = true ↔ R ≠ 0) (w : World) :
    Calls Tryz.prog 35 #[.int .u64 n, .int .u64 c, .int .i64 most] w fun e w' => e = .returned (.tuple #[.int .u64 R, .bool b]) ∧ Below w.heap.size w w' := by
  have HB := Lib.hid hb
  unfold splitD at hR
  by_cases h4 : n < 4
  · rw [if_pos h4] at hR
    have g4 : decide ((n : Int) < 4) = true := by simp; omega
    have hv := Lib.hid hR.symm
    have hbv := Lib.hid (show b = false by cases hq : b with | false => rfl | true => exact absurd hR.symm (hb.1 hq))
    clear hb hR
    go_enter Tryz.func35, Tryz.ntmps35
    go_wp2_with fail
    go_ret2
    exact ⟨by rw [hv.out, hbv.out]; rfl, Below.refl _ _⟩
  · rw [if_neg h4] at hR
    have g4 : decide ((n : Int) < 4) = false := by simp; omega
    obtain ⟨s0, hs0⟩ : ∃ s0, min most 1048576 = s0 := ⟨_, rfl⟩
    rw [hs0] at hR
    have hs1 : s0 ≤ 1048576 := by omega
    have hs2 : -9223372036854775808 ≤ s0 := by omega
    have HR := Lib.hid hR
    clear hb hR
    go_enter Tryz.func35, Tryz.ntmps35
    go_wp2_with fail
    have HRI := Lib.hid (RowIn.new w n c 2 2 88)
    have HBe := Lib.hid ((Below.refl w.heap.size w).alloc (Nat.le_refl _) (.cells #[.int .u64 (n : Int), .int .u64 (c : Int), .int .u64 ((2 : Nat) : Int), .int .u64 ((2 : Nat) : Int)] 88))
    have hgs : w.heap.size < (w.alloc (.cells #[.int .u64 (n : Int), .int .u64 (c : Int), .int .u64 2, .int .u64 2] 88)).heap.size := by simp
    go_loopw [9] (fun sv wr => ∃ (s : Int) (X Y : Nat), sv = .int .i64 s ∧ s ≤ 1048576 ∧ -9223372036854775808 ≤ s ∧ X < n ∧ Y < n ∧ w.heap.size < wr.heap.size ∧ Hid (RowIn w.heap.size wr n c X Y) ∧ Hid (Below w.heap.size w wr) ∧ Hid (splitS n c s.toNat X Y = R)) (fun sv _ => (intOf sv).toNat)
    case atStart => exact ⟨s0, 2, 2, rfl, hs1, hs2, by omega, by omega, hgs, HRI, HBe, HR⟩
    case round =>
      clear HRI HBe HR hgs hs1 hs2
      obtain ⟨s, X, Y, rfl, hs1, hs2, hX, hY, hgs, HRI, HBe, HR⟩ := hrel
      by_cases hpos : 0 < s
      · have g5 : decide ((0 : Int) < s) = true := by simp; omega
        have k0 := HRI.out.c0
        have k1 := HRI.out.c1
        have k2 := HRI.out.c2
        have k3 := HRI.out.c3
        obtain ⟨m, hm⟩ : ∃ m : Nat, min s 64 = (m : Int) := ⟨(min s 64).toNat, by omega⟩
        have hm64 : m ≤ 64 := by omega
        have HS := Lib.hid (show s.toNat = m + (s - 64).toNat by omega)
        have hsl := Lib.hid (show (s - 64).toNat < s.toNat by omega)
        go_wp2_with fail
        obtain ⟨w1, hw1⟩ : ∃ w1, wr.alloc (.cells #[.int .u64 (n : Int), .int .u64 (c : Int), .int .u64 (X : Int), .int .u64 (Y : Int)] 88) = w1 := ⟨_, rfl⟩
        have HR1 := Lib.hid (show RowIn w.heap.size w1 n c X Y by rw [← hw1]; exact HRI.out.below ((Below.refl wr.heap.size wr).alloc (Nat.le_refl _) _) hgs)
        have HR2 := Lib.hid (show RowIn wr.heap.size w1 n c X Y by rw [← hw1]; exact RowIn.new wr n c X Y _)
        have HB1 := Lib.hid (show Below w.heap.size w w1 by rw [← hw1]; exact HBe.out.alloc (Nat.le_of_lt hgs) _)
        have hg2 : wr.heap.size < w1.heap.size := by rw [← hw1]; simp
        have HGS := Lib.hid hgs
        rw [hw1]
        clear hw1 HRI HBe k0 k1 k2 k3 hm
        obtain ⟨g2, hg2e⟩ : ∃ g2, wr.heap.size = g2 := ⟨_, rfl⟩
        rw [hg2e] at HR2 hg2 HGS
        rw [hg2e]
        clear hg2e hgs
        go_loopw [11, 26] (fun pv iv wr => ∃ P i X' Y' : Nat, pv = .int .u64 P ∧ iv = .int .i64 i ∧ i ≤ m ∧ P < n ∧ X' < n ∧ Y' < n ∧ g2 < wr.heap.size ∧ Hid (itX n c i X = X' ∧ itY n c i Y = Y') ∧ Hid (RowIn w.heap.size wr n c X' Y') ∧ Hid (RowIn g2 wr n c X Y) ∧ Hid (Below w.heap.size w wr) ∧ Hid (ProdS n c i X Y P)) (fun _ iv _ => m - (intOf iv).toNat)
        case atStart => exact ⟨1, 0, X, Y, rfl, rfl, Nat.zero_le _, by omega, hX, hY, hg2, Lib.hid ⟨rfl, rfl⟩, HR1, HR2, HB1, Lib.hid (ProdS.start n c X Y)⟩
        case round =>
          clear HR1 HR2 HB1 hg2
          obtain ⟨P, i, X', Y', rfl, rfl, him, hP, hX', hY', hg2, HIT, HR1, HR2, HB1, HPr⟩ := hrel
          by_cases hlt : i < m
          · have g6 : decide ((i : Int) < (m : Int)) = true := by simp; omega
            obtain ⟨X2, hX2⟩ : ∃ x, rowS n c X' = x := ⟨_, rfl⟩
            obtain ⟨Y2, hY2⟩ : ∃ y, rowS n c (rowS n c Y') = y := ⟨_, rfl⟩
            obtain ⟨D, hD⟩ : ∃ D, distS X2 Y2 = D := ⟨_, rfl⟩
            obtain ⟨P2, hP2⟩ : ∃ p, P * D % n = p := ⟨_, rfl⟩
            have hn0 : 0 < n := by omega
            have hX2l : X2 < n := by rw [← hX2]; exact rowS_lt hn0
            have hY2l : Y2 < n := by rw [← hY2]; exact rowS_lt hn0
            have hDl : D < n := by rw [← hD]; exact dist_lt10 hX2l hY2l
            have hP2l : P2 < n := by rw [← hP2]; exact Nat.mod_lt _ hn0
            have HIT2 := Lib.hid (show itX n c (i + 1) X = X2 ∧ itY n c (i + 1) Y = Y2 by
              rw [itX_last, itY_last, HIT.out.1, HIT.out.2]
              exact ⟨hX2, hY2⟩)
            have HPr2 := Lib.hid (show ProdS n c (i + 1) X Y P2 by
              have := HPr.out.step
              rw [HIT2.out.1, HIT2.out.2, hD, hP2] at this
              exact this)
            have C1 := Lib.hid (step10 w.heap.size n c X' Y' X2 Y2 wr HR1.out hX' hY' hn hc hX2 hY2)
            have C2 := Lib.hid (fun (u : World) (h : Hid (RowIn w.heap.size u n c X2 Y2)) => distance10 w.heap.size n c X2 Y2 D u h.out hX2l hY2l hn hD)
            have C3 := Lib.hid (fun u : World => times10 P D n P2 u hP hn (by omega) hP2)
            clear hX2 hY2 hD hP2 HPr HIT
            go_wp2_with fail
            refine (C1.out).mono ?_
            rintro e w2 ⟨rfl, hR3, hO3⟩
            have HR3 := Lib.hid hR3
            have HR4 := Lib.hid (HR2.out.only hO3 (by have := HGS.out; omega))
            have HB3 := Lib.hid (HB1.out.trans (hO3.below (Nat.le_refl _)))
            have hg3 : g2 < w2.heap.size := by rw [hO3.size]; exact hg2
            clear hR3 hO3 HR1 HR2 HB1 hg2
            go_wp2_with fail
            refine (C2.out w2 HR3).mono ?_
            rintro e w3 ⟨rfl, hd⟩
            have HR5 := Lib.hid (HR3.out.drawn hd)
            have HR6 := Lib.hid (HR4.out.drawn hd)
            have HB5 := Lib.hid (HB3.out.trans ((Only.drawn w.heap.size hd).below (Nat.le_refl _)))
            have hg5 : g2 < w3.heap.size := by rw [(Only.drawn g2 hd).size]; exact hg3
            clear hd HR3 HR4 HB3 hg3
            go_wp2_with fail
            refine (C3.out w3).mono ?_
            rintro e w4 ⟨rfl, hd⟩
            have HR7 := Lib.hid (HR5.out.drawn hd)
            have HR8 := Lib.hid (HR6.out.drawn hd)
            have HB7 := Lib.hid (HB5.out.trans ((Only.drawn w.heap.size hd).below (Nat.le_refl _)))
            have hg7 : g2 < w4.heap.size := by rw [(Only.drawn g2 hd).size]; exact hg5
            clear hd HR5 HR6 HB5 hg5
            go_wp2_with fail
            go_roundw
            case rel => exact ⟨P2, i + 1, X2, Y2, rfl, by go_num, by omega, hP2l, hX2l, hY2l, hg7, HIT2, HR7, HR8, HB7, HPr2⟩
            case measure => simp [intOf]; omega
          · have g6 : decide ((i : Int) < (m : Int)) = false := by simp; omega
            obtain rfl : i = m := by omega
            obtain ⟨d, hd⟩ : ∃ d, Nat.gcd P n = d := ⟨_, rfl⟩
            have hn0 : 0 < n := by omega
            have hdl := (gcd_pos10 hn0 hd)
            have C4 := Lib.hid (common10 P n d wr (by omega) hn0 hn hd)
            have HD := Lib.hid hd
            clear hd
            by_cases hd1 : 1 < d
            · have g7 : decide ((1 : Int) < (d : Int)) = true := by simp; omega
              have hcl : ¬ ClearS n c i X Y := fun h => by have := HPr.out.2 h; have := HD.out; omega
              have hRi : splitS n c i X Y = R := by rw [← HR.out, HS.out, splitS_hit hn0 _ _ _ _ hcl]
              have C5 := Lib.hid (fun (u : World) (h : Hid (RowIn g2 u n c X Y)) (hg : g2 < u.heap.size) => first10 g2 n c X Y R i u h.out hg hX hY hn hc hcl hRi b HB.out)
              clear hcl hRi HR HPr HIT
              go_wp2_with fail
              refine (C4.out).mono ?_
              rintro e w2 ⟨rfl, hb2⟩
              have HR3 := Lib.hid (HR2.out.below hb2 hg2)
              have HB3 := Lib.hid (HB1.out.trans (hb2.mono (by have := HB1.out.size; omega)))
              have hg3 : g2 < w2.heap.size := Nat.lt_of_lt_of_le hg2 hb2.size
              clear hb2
              go_wp2_with fail
              refine (C5.out w2 HR3 hg3).mono ?_
              rintro e w3 ⟨rfl, hb3⟩
              have HB4 := Lib.hid (HB3.out.trans (hb3.mono (by have := HGS.out; omega)))
              clear hb3
              go_wp2_with fail
              go_ret2
              exact ⟨rfl, HB4.out⟩
            · have g7 : decide ((1 : Int) < (d : Int)) = false := by simp; omega
              have hcl : ClearS n c i X Y := HPr.out.1 (by have := HD.out; omega)
              have HRi := Lib.hid (show splitS n c (s - 64).toNat X' Y' = R by
                rw [← HR.out, HS.out, splitS_clear _ _ _ _ hcl, HIT.out.1, HIT.out.2])
              clear hcl HR HPr HIT
              go_wp2_with fail
              refine (C4.out).mono ?_
              rintro e w2 ⟨rfl, hb2⟩
              have HR3 := Lib.hid (HR1.out.below hb2 (by have := HGS.out; omega))
              have HB3 := Lib.hid (HB1.out.trans (hb2.mono (by have := HB1.out.size; omega)))
              have hg3 : w.heap.size < w2.heap.size := Nat.lt_of_lt_of_le (by have := HGS.out; omega) hb2.size
              clear hb2
              go_wp2_with fail
              go_roundw
              case rel => exact ⟨s - 64, X', Y', rfl, by omega, by omega, hX', hY', hg3, HR3, HB3, HRi⟩
              case measure => exact hsl.out
      · have g5 : decide ((0 : Int) < s) = false := by simp; omega
        have hv := Lib.hid (show R = 0 by rw [← HR.out, show s.toNat = 0 by omega]; rfl)
        have hbv := Lib.hid (show b = false by cases hq : b with | false => rfl | true => exact absurd hv.out (HB.out.1 hq))
        clear HR
        go_wp2_with fail
        go_ret2
        exact ⟨by rw [hv.out, hbv.out]; rfl, HBe.out⟩
end Go.Proofs.YtjpfcdgaepdcdaaGreat
/- Appending one number to a row of the call's own: the row stands where it stood, or in a new block. Conditions: as typed. -/
namespace Go.Proofs.YtjpfcdgaepdcdaaGreat
open Go.RowKit
section
variable {P : Program} (w : World)
theorem run_append_sep10 (base : Nat) (t ty e : TypeId) (i : TypeInfo) (z : Value) (bytes : Nat) (ht : P.underlying t = some (.slice e)) (hi : P.info? e = some i) (hz : i.zero = some z)
    (hsize : i.size = 1) (hby : i.bytes = bytes) (hzs : z.cells.size = 1)
    (v : Value) (n : Nat) (xs : List Value) (hown : w.ownsRow base e 1 v n xs)
    (a : Addr) (u : Value) (hu : w.cell? (a.add 0) = some u) (h1 : u.oneCell' = true)
    (h63 : n + 1 ≤ maxLen) (hbytes : (n + 1) * bytes ≤ 140737488355328) (hbase : base ≤ w.heap.size) :
    ∃ v' w', (Builtin.append_ #[t, t] ty #[v, .slice (some a) 1 1]).run P w = .ok v' w' ∧ w'.ownsRow base e 1 v' (n + 1) (xs ++ [u]) ∧ w.grownBy w' v.ownBlock ∧
      (v'.ownBlock = v.ownBlock ∨ ∃ g, v'.ownBlock = some g ∧ w.heap.size ≤ g) := by
  have hnews : ∀ j y, [u][j]? = some y → w.cell? (a.add j) = some y := fun j y hy => by
    cases j with
    | zero => simp at hy; subst hy; exact hu
    | succ j => simp at hy
  have hone : ∀ y ∈ [u], y.oneCell' = true := fun y hy => by rw [List.mem_singleton.1 hy]; exact h1
  obtain ⟨v', w', hr, ho, hg, _⟩ := run_append_own (P := P) w base t ty e i z 1 bytes ht hi hz hsize hby hzs (by omega) v n xs hown a 1 1 [u] rfl hnews hone h63 hbytes hbase
  refine ⟨v', w', hr, ho, hg, ?_⟩
  rcases hown.2 with ⟨rfl, rfl⟩ | ⟨g, cap, cur, rfl, hbg, hgg, hnc, hcm, hcs, htake⟩
  · have hx : xs = [] := List.eq_nil_of_length_eq_zero (by simpa using hown.1)
    subst hx
    obtain ⟨v2, w2, hr2, ho2, _, _⟩ := run_append_own (P := P) w w.heap.size t ty e i z 1 bytes ht hi hz hsize hby hzs (by omega) (.slice none 0 0) 0 [] (World.ownsRow_nil _ _ _ _) a 1 1 [u] rfl hnews hone h63 hbytes (Nat.le_refl _)
    rw [hr] at hr2
    injection hr2 with e1 e2
    subst e1
    rcases ho2.2 with ⟨_, h0⟩ | ⟨g, cap, cur, rfl, hbg, _⟩
    · omega
    · exact .inr ⟨g, rfl, hbg⟩
  · by_cases hroom : n + 1 ≤ cap
    · have hr2 := run_append_room (P := P) w t ty e i ht hi g n cap cur hgg a 1 1 [u] (by rw [hsize]; rfl) hnews hone hroom (by rw [hsize, hcs]; simp; omega)
      rw [hr] at hr2
      injection hr2 with e1 e2
      subst e1
      exact .inl rfl
    · have hr2 := run_append_grow (P := P) w t ty e i z ht hi hz ⟨g, 0, none⟩ n cap xs (by rw [hsize]; exact hown.1) (hown.cells (g := g) rfl) a 1 1 [u] (by rw [hsize]; rfl) hnews (by omega) (by simp only [maxLen] at h63; omega) (growslice_fits (by omega) (by rw [hby]; exact hbytes))
      rw [hr] at hr2
      injection hr2 with e1 e2
      subst e1
      exact .inr ⟨_, rfl, Nat.le_refl _⟩
theorem wpList_append_sep10 {ops : Array Oper} {rest : List Oper} {o : Oper} {a : Act} {Q : Exit → Act → World → Prop} (hgd : o.guard = none) (s x : Operand) (t : TypeId)
    (ho : o.op = .call { callee := .builtin .append, args := #[s, x], argTypes := #[t, t] })
    (base : Nat) (e : TypeId) (i : TypeInfo) (z : Value) (bytes : Nat) (ht : P.underlying t = some (.slice e)) (hi : P.info? e = some i) (hz : i.zero = some z)
    (hsize : i.size = 1) (hby : i.bytes = bytes) (hzs : z.cells.size = 1)
    (v : Value) (n : Nat) (k : IntKind) (ys : List Nat) (hs : a.eval s = v) (hown : w.ownsRow base e 1 v n (ints k ys)) (X : Int) (y : Nat) (hX : X = (y : Int))
    (hx : a.eval x = .slice (some ⟨w.heap.size, 0, none⟩) 1 1)
    (h63 : n + 1 ≤ maxLen) (hbytes : (n + 1) * bytes ≤ 140737488355328) (hbase : base ≤ w.heap.size)
    (h : ∀ v' w', w'.ownsRow base e 1 v' (n + 1) (ints k (ys ++ [y])) → w.grownBy w' v.ownBlock → (v'.ownBlock = v.ownBlock ∨ ∃ g, v'.ownBlock = some g ∧ w.heap.size ≤ g) → wpList P ops Q rest (a.put o.dst v') w') : wpList P ops Q (o :: rest) a (w.alloc (.cells #[.int k X] e)) := by
  subst hX
  refine wpList_plain hgd fun K hK => ?_
  obtain ⟨v', w', hr, h2, h3, h4⟩ := run_append_sep10 (P := P) (w.alloc (.cells #[.int k (y : Int)] e)) base t o.type e i z bytes ht hi hz hsize hby hzs v n (ints k ys) (hown.alloc _) ⟨w.heap.size, 0, none⟩ (.int k (y : Int)) (by simp [Addr.add_lit]) rfl h63 hbytes (by simp; omega)
  unfold Oper.wp execOp
  simp only [ho, resolve, invoke, builtin, Sem.run_bind, Sem.run_pure, Result.andThen_ok, List.map_toArray, List.map_cons, List.map_nil, hs, hx, hr]
  refine hK _ _ (h v' w' (by rw [ints_append]; exact h2) ⟨h3.os, h3.tape, h3.output, Nat.le_trans (by simp) h3.size, fun q hq hne => (h3.block q (by simp; omega) hne).trans (Below.heap_alloc _ _ _ hq)⟩ ?_)
  rcases h4 with h4 | ⟨g, hg, hl⟩
  · exact .inl h4
  · exact .inr ⟨g, hg, by simp at hl; omega⟩
end
end Go.Proofs.YtjpfcdgaepdcdaaGreat
/- rho's tried; and the two lists that Factors fills, in memory: put. Conditions: as typed (words). -/
namespace Go.Proofs.YtjpfcdgaepdcdaaGreat
open Go.RowKit
set_option maxRecDepth 20000
/-! Trying -/
structure TriedMid (N : Nat) (ls : List Nat) (m : Nat) : Prop where
  all : prodN ls * m = N
  primes : ∀ p ∈ ls, Prm p
  pos : 0 < m
theorem TriedMid.few {N : Nat} {ls : List Nat} {m : Nat} (h : TriedMid N ls m) (hN : N < 18446744073709551616) : ls.length < 64 :=
  prodN_len (fun p hp => (h.primes p hp).1) (Nat.lt_of_le_of_lt (by rw [← h.all]; exact Nat.le_mul_of_pos_right _ h.pos) hN)
theorem TriedMid.le {N : Nat} {ls : List Nat} {m : Nat} (h : TriedMid N ls m) (h0 : 0 < N) : m ≤ N := Nat.le_of_dvd h0 (by rw [← h.all]; exact Nat.dvd_mul_left _ _)
theorem isTrial_prm10 {m most r : Nat} (h : IsTrial m most r) (h0 : r ≠ 0) : Prm r ∧ m % r = 0 ∧ 2 ≤ r ∧ r < m := by
  rcases h with ⟨h, _⟩ | ⟨h1, _, _, h4, h5, h6⟩
  · exact absurd h h0
  · exact ⟨NoneBelow.at_ (m := m) (fun e h7 h8 => h6 e h7 h8) h1 h5, h5, h1, h4⟩
theorem TriedMid.take {N : Nat} {ls : List Nat} {m r : Nat} (h : TriedMid N ls m) (hr : Prm r) (hz : m % r = 0) (hl : r ≤ m) : TriedMid N (ls ++ [r]) (m / r) where
  all := by rw [prodN_append, prodN_one, Nat.mul_assoc, Nat.mul_div_cancel' (Nat.dvd_of_mod_eq_zero hz)]; exact h.all
  primes := fun p hp => by
    rcases List.mem_append.1 hp with h1 | h1
    · exact h.primes p h1
    · rw [List.mem_singleton.1 h1]; exact hr
  pos := Nat.div_pos hl (by have := hr.1; omega)
/-- What the call owns stays so where nothing that is there turns. -/
theorem own_keep10 {w w' : World} {base n : Nat} {e : TypeId} {v : Value} {xs : List Value} (h : w.ownsRow base e 1 v n xs) (b : Below w.heap.size w w') : w'.ownsRow base e 1 v n xs :=
  h.kept (row := none) ⟨b.os, b.tape, b.output, b.size, fun k hk _ => b.block k hk⟩ (by cases v.ownBlock <;> simp)
set_option maxHeartbeats 8000000 in
theorem tried10 (N : Nat) (h0 : 0 < N) (hN : N < 18446744073709551616) (w : World) :
    Calls Tryz.prog 33 #[.int .u64 N] w fun e w' => ∃ ls m X d, e = .returned (.tuple #[.slice X ls.length d, .int .u64 ((m : Nat) : Int)]) ∧ TriedMid N ls m ∧ IsTrial m 65535 0 ∧ w'.ownsRow w.heap.size 27 1 (.slice X ls.length d) ls.length (ints .u64 ls) ∧ Below w.heap.size w w' := by
  obtain ⟨i0, hi, hz0, hz1, hz2⟩ := info_parts num_info_u64
  have HO := Lib.hid (fun (u : World) (m : Nat) (hm : m < 18446744073709551616) => bOf u m hm)
  have HT := Lib.hid (fun (m r : Nat) (b' : Bool) (u : World) (X : Option Addr) (q d : Nat) (hm : m < 18446744073709551616) (hr : Hid (IsTrial m 65535 r)) (hb' : Hid (b' = true ↔ r ≠ 0)) (S : Hid (NatIs u X q d m)) =>
    trial_any (natIs_row9 S.out) (by have := NatIs.few10 S.out hm; omega) 65535 r (by omega) (by rw [natOf_wd, if_pos rfl]; exact hr.out) b' hb'.out)
  obtain ⟨r0, hr0⟩ := isTrial_some N 65535
  have HR0 := Lib.hid hr0
  obtain ⟨b0, hb0⟩ : ∃ b : Bool, b = true ↔ r0 ≠ 0 := ⟨decide (r0 ≠ 0), by simp⟩
  have HB0 := Lib.hid hb0
  have HTr := Lib.hid (show TriedMid N [] N from ⟨by rw [prodN_nil, Nat.one_mul], by simp, h0⟩)
  clear hr0 hb0
  go_enter Tryz.func33, Tryz.ntmps33
  go_wp2_with fail
  refine (HO.out w N hN).mono ?_
  rintro e w1 ⟨X, q, d, rfl, S1, _, b1⟩
  have HS1 := Lib.hid S1
  have HB1 := Lib.hid b1
  clear S1 b1
  go_wp2_with fail
  refine (HT.out N r0 b0 w1 X q d hN HR0 HB0 HS1).mono ?_
  rintro e w2 ⟨rfl, b2⟩
  have HB2 := Lib.hid (below_step HB1.out b2)
  clear b2
  go_wp2_with fail
  go_loopw [0, 2, 4, 5] (fun nv fv dv bv wr => ∃ (m r : Nat) (b : Bool) (ys : List Nat), nv = .int .u64 m ∧ dv = .int .u64 r ∧ bv = .bool b ∧ m ≤ N ∧ Hid (IsTrial m 65535 r) ∧ Hid (b = true ↔ r ≠ 0) ∧ Hid (TriedMid N ys m) ∧ wr.ownsRow w.heap.size 27 1 fv ys.length (ints .u64 ys) ∧ Hid (Below w.heap.size w wr)) (fun nv _ _ _ _ => (intOf nv).toNat)
  case atStart => exact ⟨N, r0, b0, [], rfl, rfl, rfl, Nat.le_refl _, HR0, HB0, HTr, World.ownsRow_nil _ _ _ _, HB2⟩
  case round =>
    clear HR0 HB0 HTr HB1 HB2 HS1
    obtain ⟨m, r, b, ys, rfl, rfl, rfl, hmN, HR, HB, HTr, hown, HBe⟩ := hrel
    by_cases hr : r = 0
    · obtain rfl : b = false := by cases b with | false => rfl | true => exact absurd hr (HB.out.1 rfl)
      have HR2 := Lib.hid (show IsTrial m 65535 0 by rw [← hr]; exact HR.out)
      obtain ⟨X3, e3, rfl, _, _⟩ := own_form hown
      have HOwn := Lib.hid hown
      clear hr hown
      go_wp2_with fail
      go_ret2
      exact ⟨ys, m, X3, e3, rfl, HTr.out, HR2.out, HOwn.out, HBe.out⟩
    · obtain rfl : b = true := HB.out.2 hr
      obtain ⟨hp, hz, hr2, hrm⟩ := isTrial_prm10 HR.out hr
      obtain ⟨m', hm'⟩ : ∃ m', m / r = m' := ⟨_, rfl⟩
      have hmI : (m : Int) / (r : Int) = (m' : Int) := by rw [← hm']; simp
      have hrz : ((r : Int) == 0) = false := by simp; omega
      have hm'l : m' < m := by rw [← hm']; exact Nat.div_lt_self (by omega) (by omega)
      have HTr2 := Lib.hid (show TriedMid N (ys ++ [r]) m' by rw [← hm']; exact HTr.out.take hp hz (Nat.le_of_lt hrm))
      have hyl := HTr.out.few hN
      obtain ⟨r2, hr2'⟩ := isTrial_some m' 65535
      have HR2 := Lib.hid hr2'
      obtain ⟨b2, hb2⟩ : ∃ b : Bool, b = true ↔ r2 ≠ 0 := ⟨decide (r2 ≠ 0), by simp⟩
      have HB2 := Lib.hid hb2
      have hle : (ys ++ [r]).length = ys.length + 1 := by simp
      have hsz := HBe.out.size
      clear hr2' hb2 hm' hp hz HTr HR HB
      go_wp2_with (at_builtin; refine wpList_append_one _ rfl _ _ 24 rfl w.heap.size 27 i0 (.int .u64 0) 8 Tryz.underlying24 hi hz0 hz1 hz2 rfl _ _ .u64 ys rfl hown _ r rfl rfl (by unfold maxLen; omega) (by omega) hsz ?_)
      intro v3 w3 own3 _ b3
      rw [← hle] at own3
      have HB3 := Lib.hid (HBe.out.trans b3)
      have HOwn := Lib.hid own3
      clear own3 b3 hown HBe
      go_wp2_with fail
      refine (HO.out w3 m' (by omega)).mono ?_
      rintro e w4 ⟨X4, q4, d4, rfl, S4, _, b4⟩
      have HS4 := Lib.hid S4
      have HB4 := Lib.hid (below_step HB3.out b4)
      have HOwn4 := Lib.hid (own_keep10 HOwn.out b4)
      clear S4 b4
      go_wp2_with fail
      refine (HT.out m' r2 b2 w4 X4 q4 d4 (by omega) HR2 HB2 HS4).mono ?_
      rintro e w5 ⟨rfl, b5⟩
      have HB5 := Lib.hid (below_step HB4.out b5)
      have own5 := own_keep10 HOwn4.out b5
      clear b5
      go_wp2_with fail
      go_roundw
      case rel => exact ⟨m', r2, b2, ys ++ [r], rfl, rfl, rfl, by omega, HR2, HB2, HTr2, own5, HB5⟩
      case measure => simp [intOf]; omega
end Go.Proofs.YtjpfcdgaepdcdaaGreat
/- The two lists that rho's Factors fills, in memory, and its function put. Conditions: as typed (words; no more than a thousand numbers in a list). -/
namespace Go.Proofs.YtjpfcdgaepdcdaaGreat
open Go.RowKit
set_option maxRecDepth 20000
theorem boxed_set10 {w : World} {g t : Nat} {v : Value} (h : Boxed w g t v) (v' : Value) : Boxed (w.setCell ⟨g, 0, none⟩ v') g t v' := by
  show (w.heap.modify g _)[g]? = _
  rw [Array.getElem?_modify, if_pos rfl, show w.heap[g]? = _ from h]
  rfl
/-- A row of numbers is not a box of slices. -/
theorem own_box_ne10 {w : World} {base n g : Nat} {v u : Value} {xs : List Value} (h : w.ownsRow base 27 1 v n xs) (b : Boxed w g 24 u) : v.ownBlock ≠ some g := by
  rcases h.2 with ⟨rfl, _⟩ | ⟨k, cap, cur, rfl, _, hh, _⟩
  · simp [Value.ownBlock]
  · intro e
    simp only [Value.ownBlock, Option.some.injEq] at e
    subst e
    unfold Boxed at b
    rw [hh] at b
    injection b with b
    injection b with _ e2
    cases e2
theorem own_set10 {w : World} {base n g i : Nat} {v u : Value} {xs : List Value} (h : w.ownsRow base 27 1 v n xs) (hne : v.ownBlock ≠ some g) : (w.setCell ⟨g, i, none⟩ u).ownsRow base 27 1 v n xs :=
  h.kept (row := some g) ⟨rfl, rfl, rfl, by simp [World.setCell], fun k _ hk => Below.heap_setCell _ _ _ _ (fun e => hk (by rw [e]))⟩ (by
    cases hv : v.ownBlock with
    | none => exact .inl rfl
    | some k => exact .inr (by rw [← hv]; exact hne))
/-- The two lists: the boxes' blocks, what stands in them, the rows. -/
structure FacAt (w0 : World) (gL gU : Nat) (wr : World) (vL vU : Value) (ls us : List Nat) : Prop where
  bL : Boxed wr gL 24 vL
  bU : Boxed wr gU 24 vU
  oL : wr.ownsRow w0.heap.size 27 1 vL ls.length (ints .u64 ls)
  oU : wr.ownsRow w0.heap.size 27 1 vU us.length (ints .u64 us)
  apart : ∀ k, vL.ownBlock = some k → vU.ownBlock ≠ some k
  ne : gL ≠ gU
  lo : w0.heap.size ≤ gL ∧ w0.heap.size ≤ gU
  be : Below w0.heap.size w0 wr
section
variable {w0 wr w' : World} {gL gU : Nat} {vL vU : Value} {ls us : List Nat}
theorem FacAt.swap (P : FacAt w0 gL gU wr vL vU ls us) : FacAt w0 gU gL wr vU vL us ls :=
  ⟨P.bU, P.bL, P.oU, P.oL, fun k h1 h2 => P.apart k h2 h1, P.ne.symm, ⟨P.lo.2, P.lo.1⟩, P.be⟩
theorem FacAt.keep (P : FacAt w0 gL gU wr vL vU ls us) (b : Below wr.heap.size wr w') : FacAt w0 gL gU w' vL vU ls us :=
  ⟨(b.block gL P.bL.lt).trans P.bL, (b.block gU P.bU.lt).trans P.bU, own_keep10 P.oL b, own_keep10 P.oU b, P.apart, P.ne, P.lo, P.be.trans (b.mono P.be.size)⟩
/-- Behind an append to the first list, and its store. -/
theorem FacAt.put (P : FacAt w0 gL gU wr vL vU ls us) {w2 : World} {v' : Value} {ls' : List Nat} (o : w2.ownsRow w0.heap.size 27 1 v' ls'.length (ints .u64 ls')) (hg : wr.grownBy w2 vL.ownBlock) (hs : v'.ownBlock = vL.ownBlock ∨ ∃ g, v'.ownBlock = some g ∧ wr.heap.size ≤ g) :
    Boxed w2 gL 24 vL ∧ FacAt w0 gL gU (w2.setCell ⟨gL, 0, none⟩ v') v' vU ls' us := by
  have hL := own_box_ne10 P.oL P.bL
  have hU := own_box_ne10 P.oL P.bU
  have k1 : Boxed w2 gL 24 vL := (hg.block gL P.bL.lt (fun e => hL e.symm)).trans P.bL
  have k2 : Boxed w2 gU 24 vU := (hg.block gU P.bU.lt (fun e => hU e.symm)).trans P.bU
  have o2 : w2.ownsRow w0.heap.size 27 1 vU us.length (ints .u64 us) := P.oU.kept hg (by
    cases hv : vU.ownBlock with
    | none => exact .inl rfl
    | some k => exact .inr (fun e => P.apart k e.symm hv))
  refine ⟨k1, boxed_set10 k1 v', ?_, own_set10 o (own_box_ne10 o k1), own_set10 o2 (own_box_ne10 o2 k1), fun k h1 h2 => ?_, P.ne, P.lo, ?_⟩
  · exact (Below.heap_setCell _ _ _ _ (fun e => P.ne e.symm)).trans k2
  · rcases hs with h | ⟨g, h, hlt⟩
    · exact P.apart k (h ▸ h1) h2
    · rw [h1] at h
      injection h with h
      have := (P.oU.lt k h2).2
      omega
  · refine (P.be.grown hg P.be.size (fun k hk => (P.oL.lt k hk).1)).setCell P.lo.1 _
end
/-- What put makes of a number: nothing of 1; it goes to the first list if it passes, else to the other one. -/
def PutIs (part : Nat) (ls us ls' us' : List Nat) : Prop := (part = 1 ∧ ls' = ls ∧ us' = us) ∨ (part ≠ 1 ∧ IsW part ∧ ls' = ls ++ [part] ∧ us' = us) ∨ (part ≠ 1 ∧ ¬ IsW part ∧ ls' = ls ∧ us' = us ++ [part])
set_option maxHeartbeats 8000000 in
theorem put10 (w0 : World) (gL gU : Nat) (wr : World) (vL vU : Value) (ls us : List Nat) (P : FacAt w0 gL gU wr vL vU ls us) (part : Nat) (hp : part < 18446744073709551616) (hl : ls.length ≤ 1000) (hu : us.length ≤ 1000) :
    Calls Tryz.prog 34 #[.int .u64 part, .pointer (some ⟨gL, 0, none⟩), .pointer (some ⟨gU, 0, none⟩)] wr fun e w' => e = .returned (.tuple #[]) ∧ ∃ vL' vU' ls' us', FacAt w0 gL gU w' vL' vU' ls' us' ∧ PutIs part ls us ls' us' := by
  obtain ⟨i0, hi, hz0, hz1, hz2⟩ := info_parts num_info_u64
  have HP := Lib.hid P
  by_cases h1 : part = 1
  · have g1 : ((part : Int) == 1) = true := by simp; omega
    have H1 := Lib.hid h1
    clear h1 P
    go_enter Tryz.func34, Tryz.ntmps34
    go_wp2_with fail
    go_end0
    exact ⟨rfl, vL, vU, ls, us, HP.out, .inl ⟨H1.out, rfl, rfl⟩⟩
  · have g1 : ((part : Int) == 1) = false := by simp; omega
    have H1 := Lib.hid h1
    by_cases hW : IsW part
    · have HI := Lib.hid (is_word9 part hp true ⟨fun _ => hW, fun _ => rfl⟩ wr)
      have HW := Lib.hid hW
      clear h1 P hW
      go_enter Tryz.func34, Tryz.ntmps34
      go_wp2_with fail
      refine (HI.out).mono ?_
      rintro e w1 ⟨rfl, b1⟩
      have HP1 := Lib.hid (HP.out.keep b1)
      have k1 := HP1.out.bL.cell
      have own1 := HP1.out.oL
      have hsz := HP1.out.be.size
      have hle : (ls ++ [part]).length = ls.length + 1 := by simp
      clear b1
      go_wp2_with (at_builtin; refine wpList_append_sep10 _ rfl _ _ 24 rfl w0.heap.size 27 i0 (.int .u64 0) 8 Tryz.underlying24 hi hz0 hz1 hz2 rfl vL _ .u64 ls rfl own1 _ part rfl rfl (by unfold maxLen; omega) (by omega) hsz ?_)
      intro v2 w2 own2 hgr hsep
      rw [← hle] at own2
      obtain ⟨kb, hP2⟩ := HP1.out.put own2 hgr hsep
      obtain ⟨X2, c2, rfl, _, _⟩ := own_form own2
      have k2 := kb.cell
      have f2 := kb.frozen
      have HP2 := Lib.hid hP2
      clear own2 hgr hsep kb hP2 own1 k1
      go_wp2_with fail
      go_end0
      have HP3 := HP2.out
      rw [hle] at HP3
      exact ⟨rfl, _, vU, _, us, HP3, .inr (.inl ⟨H1.out, HW.out, rfl, rfl⟩)⟩
    · have HI := Lib.hid (is_word9 part hp false ⟨fun h => (Bool.false_ne_true h).elim, fun h => absurd h hW⟩ wr)
      have HW := Lib.hid hW
      clear h1 P hW
      go_enter Tryz.func34, Tryz.ntmps34
      go_wp2_with fail
      refine (HI.out).mono ?_
      rintro e w1 ⟨rfl, b1⟩
      have HP1 := Lib.hid (HP.out.keep b1).swap
      have k1 := HP1.out.bL.cell
      have own1 := HP1.out.oL
      have hsz := HP1.out.be.size
      have hle : (us ++ [part]).length = us.length + 1 := by simp
      clear b1
      go_wp2_with (at_builtin; refine wpList_append_sep10 _ rfl _ _ 24 rfl w0.heap.size 27 i0 (.int .u64 0) 8 Tryz.underlying24 hi hz0 hz1 hz2 rfl vU _ .u64 us rfl own1 _ part rfl rfl (by unfold maxLen; omega) (by omega) hsz ?_)
      intro v2 w2 own2 hgr hsep
      rw [← hle] at own2
      obtain ⟨kb, hP2⟩ := HP1.out.put own2 hgr hsep
      obtain ⟨X2, c2, rfl, _, _⟩ := own_form own2
      have k2 := kb.cell
      have f2 := kb.frozen
      have HP2 := Lib.hid hP2.swap
      clear own2 hgr hsep kb hP2 own1 k1
      go_wp2_with fail
      go_end0
      have HP3 := HP2.out
      rw [hle] at HP3
      exact ⟨rfl, vL, _, ls, _, HP3, .inr (.inr ⟨H1.out, HW.out, rfl, rfl⟩)⟩
end Go.Proofs.YtjpfcdgaepdcdaaGreat
/- rho's Factors. Conditions: as typed (words; up to a thousand draws). -/
namespace Go.Proofs.YtjpfcdgaepdcdaaGreat
open Go.RowKit
set_option maxRecDepth 20000
/-! What stands in the two lists -/
/-- What has been told, what waits, and what is in hand, multiplied, is the number. -/
structure FacMid (N : Nat) (ls us : List Nat) (k : Nat) : Prop where
  all : prodN ls * prodN us * k = N
  told : ∀ p ∈ ls, IsW p ∧ 2 ≤ p
  wait : ∀ u ∈ us, 2 ≤ u ∧ ¬ IsW u ∧ NoneBelow u 65536
/-- What may be put. -/
def MayPut (part : Nat) : Prop := part ≠ 1 → 2 ≤ part ∧ (¬ IsW part → NoneBelow part 65536)
theorem FacMid.put {N part k : Nat} {ls us ls' us' : List Nat} (h : FacMid N ls us (part * k)) (hm : MayPut part) (hp : PutIs part ls us ls' us') : FacMid N ls' us' k := by
  rcases hp with ⟨rfl, rfl, rfl⟩ | ⟨h1, h2, rfl, rfl⟩ | ⟨h1, h2, rfl, rfl⟩
  · exact ⟨by rw [← h.all, Nat.one_mul], h.told, h.wait⟩
  · refine ⟨by rw [← h.all, prodN_append, prodN_one]; simp only [Nat.mul_assoc, Nat.mul_left_comm, Nat.mul_comm], fun p hp => ?_, h.wait⟩
    rcases List.mem_append.1 hp with h3 | h3
    · exact h.told p h3
    · rw [List.mem_singleton.1 h3]; exact ⟨h2, (hm h1).1⟩
  · refine ⟨by rw [← h.all, prodN_append, prodN_one]; simp only [Nat.mul_assoc], h.told, fun u hu => ?_⟩
    rcases List.mem_append.1 hu with h3 | h3
    · exact h.wait u h3
    · rw [List.mem_singleton.1 h3]; exact ⟨(hm h1).1, h2, (hm h1).2 h2⟩
theorem FacMid.pos {N k : Nat} {ls us : List Nat} (h : FacMid N ls us k) (h0 : 0 < N) : 0 < prodN ls ∧ 0 < prodN us ∧ 0 < k := by
  have e := h.all
  refine ⟨?_, ?_, ?_⟩ <;> (apply Nat.pos_of_ne_zero; intro hz; rw [hz] at e; simp at e; omega)
theorem FacMid.few {N k : Nat} {ls us : List Nat} (h : FacMid N ls us k) (h0 : 0 < N) (hN : N < 18446744073709551616) : ls.length < 64 := by
  obtain ⟨h1, h2, h3⟩ := h.pos h0
  refine prodN_len (fun p hp => (h.told p hp).2) (Nat.lt_of_le_of_lt ?_ hN)
  rw [← h.all, Nat.mul_assoc]
  exact Nat.le_mul_of_pos_right _ (Nat.mul_pos h2 h3)
theorem FacMid.one {N k : Nat} {ls us : List Nat} (h : FacMid N ls us k) (h0 : 0 < N) (hN : N < 18446744073709551616) : us = [] ∨ ∃ u, us = [u] := by
  cases us with
  | nil => exact .inl rfl
  | cons u t =>
    cases t with
    | nil => exact .inr ⟨u, rfl⟩
    | cons v t =>
      exfalso
      have hu := h.wait u List.mem_cons_self
      have hv := h.wait v (List.mem_cons_of_mem _ List.mem_cons_self)
      have hg := two_great hu.2.2 hu.1 (fun hp => hu.2.1 (isW_prm hp)) hv.2.2 hv.1 (fun hp => hv.2.1 (isW_prm hp))
      obtain ⟨h1, h2, h3⟩ := h.pos h0
      have e := h.all
      rw [prodN_cons, prodN_cons] at e h2
      have ht : 0 < prodN t := by
        apply Nat.pos_of_ne_zero; intro hz; rw [hz] at h2; simp at h2
      have h4 : u * v ≤ prodN (u :: v :: t) := by
        rw [prodN_cons, prodN_cons, ← Nat.mul_assoc]; exact Nat.le_mul_of_pos_right _ ht
      have h5 : prodN (u :: v :: t) ≤ N := by
        rw [← h.all, Nat.mul_comm (prodN ls), Nat.mul_assoc]
        exact Nat.le_mul_of_pos_right _ (Nat.mul_pos h1 h3)
      omega
theorem FacMid.part {N k : Nat} {ls us : List Nat} (h : FacMid N ls us k) (h0 : 0 < N) : k ≤ N := Nat.le_of_dvd h0 (by rw [← h.all]; exact Nat.dvd_mul_left _ _)
theorem mayPut_trial {m : Nat} (h : IsTrial m 65535 0) (h0 : 0 < m) : MayPut m := fun h1 => ⟨by omega, fun hw d h2 h3 hz => by
  rcases h with ⟨_, h⟩ | ⟨h, _⟩
  · rcases Nat.lt_trichotomy d m with h4 | h4 | h4
    · exact h d h2 (by omega) (by omega) h4 hz
    · subst h4
      refine hw (isW_prm ⟨by omega, fun e he => ?_⟩)
      by_cases e1 : e = 1
      · exact .inl e1
      · rcases Nat.lt_or_ge e d with h5 | h5
        · exact absurd (Nat.mod_eq_zero_of_dvd he) (h e (by have := Nat.pos_of_dvd_of_pos he h0; omega) (by omega) (by omega) h5)
        · exact .inr (Nat.le_antisymm (Nat.le_of_dvd h0 he) h5)
    · rw [Nat.mod_eq_of_lt h4] at hz; omega
  · omega⟩
theorem mayPut_part {u d : Nat} (h : NoneBelow u 65536) (hd : d ∣ u) (hu : 0 < u) : MayPut d := fun h1 => ⟨by have := Nat.pos_of_dvd_of_pos hd hu; omega, fun _ => h.less hd⟩
theorem PutIs.mem {part : Nat} {ls us ls' us' : List Nat} (h : PutIs part ls us ls' us') : ∀ x ∈ us', x ∈ us ∨ x = part := fun x hx => by
  rcases h with ⟨_, _, rfl⟩ | ⟨_, _, _, rfl⟩ | ⟨_, _, _, rfl⟩
  · exact .inl hx
  · exact .inl hx
  · rcases List.mem_append.1 hx with h | h
    · exact .inl h
    · exact .inr (List.mem_singleton.1 h)
/-- How great what waits is. -/
def waitN (us : List Nat) : Nat := us.foldr (· + ·) 0
theorem waitN_lt {us : List Nat} {u : Nat} (h : us = [] ∨ ∃ x, us = [x]) (hx : ∀ x ∈ us, x < u) (hu : 0 < u) : waitN us < u := by
  rcases h with rfl | ⟨x, rfl⟩
  · exact hu
  · have := hx x List.mem_cons_self
    simpa [waitN] using this
theorem prodN_perm {l m : List Nat} (h : l.Perm m) : prodN l = prodN m := by
  induction h with
  | nil => rfl
  | cons a _ ih => rw [prodN_cons, prodN_cons, ih]
  | swap a b l => rw [prodN_cons, prodN_cons, prodN_cons, prodN_cons, Nat.mul_left_comm]
  | trans _ _ ih1 ih2 => exact ih1.trans ih2
theorem FacMid.tell {N rest er : Nat} {ls l2 : List Nat} (h : FacMid N ls [] rest) (hp : l2.Perm ls) (hr : l2.Pairwise (· ≤ ·)) (he : (er = 0 ∧ rest = 1) ∨ (er = 11 ∧ 1 < rest ∧ ¬ IsW rest ∧ NoneBelow rest 65536)) : Told10 IsW N l2 rest er where
  all := by have := h.all; rw [prodN_nil, Nat.mul_one] at this; rw [prodN_perm hp]; exact this
  tested := fun p hp2 => (h.told p (hp.mem_iff.1 hp2)).1
  great := fun p hp2 => (h.told p (hp.mem_iff.1 hp2)).2
  rise := hr
  ends := he
end Go.Proofs.YtjpfcdgaepdcdaaGreat
/- rho's Factors, walked. Conditions: as typed (words; up to a thousand draws). -/
namespace Go.Proofs.YtjpfcdgaepdcdaaGreat
open Go.RowKit
set_option maxRecDepth 20000
theorem own_mono10 {w : World} {b b' n : Nat} {e : TypeId} {v : Value} {xs : List Value} (h : w.ownsRow b e 1 v n xs) (hb : b' ≤ b) : w.ownsRow b' e 1 v n xs := by
  refine ⟨h.1, ?_⟩
  rcases h.2 with h2 | ⟨g, cap, cur, h1, h2, h3⟩
  · exact .inl h2
  · exact .inr ⟨g, cap, cur, h1, by omega, h3⟩
/-- The lists as they stand when the first number is put. -/
theorem FacAt.start {w w1 : World} {X : Option Addr} {d : Nat} {ls : List Nat} (gL : Nat) (hg : w.heap.size = gL) (own : w1.ownsRow (w.heap.size + 1) 27 1 (.slice X ls.length d) ls.length (ints .u64 ls)) (b : Below (w.heap.size + 1) (w.alloc (.cells #[.slice none 0 0] 24)) w1) :
    Boxed w1 gL 24 (.slice none 0 0) ∧ FacAt w gL w1.heap.size ((w1.setCell ⟨gL, 0, none⟩ (.slice X ls.length d)).alloc (.cells #[.slice none 0 0] 24)) (.slice X ls.length d) (.slice none 0 0) ls [] := by
  subst hg
  have h1 : Boxed w1 w.heap.size 24 (.slice none 0 0) := (b.block w.heap.size (by omega)).trans (Boxed.new w _ _)
  have hsz := b.size
  simp only [World.size_alloc] at hsz
  have h2 := boxed_set10 h1 (.slice X ls.length d)
  refine ⟨h1, ?_, ?_, ?_, World.ownsRow_nil _ _ _ _, fun k _ h => (by simp [Value.ownBlock] at h), by omega, ⟨Nat.le_refl _, by omega⟩, ?_⟩
  · exact (Below.heap_alloc _ _ _ (by simp [World.setCell]; omega)).trans h2
  · have := Boxed.new (w1.setCell ⟨w.heap.size, 0, none⟩ (.slice X ls.length d)) 24 (.slice none 0 0)
    simpa [World.setCell] using this
  · exact (own_set10 (own_mono10 own (by omega)) (own_box_ne10 own h1)).alloc _
  · refine ((((Below.refl w.heap.size w).alloc (Nat.le_refl _) _).trans (b.mono (by omega))).setCell (Nat.le_refl _) _).alloc ?_ _
    simp [World.setCell]
    omega
/-- One number waits, and is taken out. -/
theorem FacAt.pop {w0 wr : World} {gL gU cU u : Nat} {vL : Value} {AU : Option Addr} {ls : List Nat} (P : FacAt w0 gL gU wr vL (.slice AU 1 cU) ls [u]) :
    ∃ g, AU = some ⟨g, 0, none⟩ ∧ wr.cell? ⟨g, 0, none⟩ = some (.int .u64 (u : Int)) ∧ FacAt w0 gL gU (wr.setCell ⟨gU, 0, none⟩ (.slice (some ⟨g, 0, none⟩) 0 cU)) vL (.slice (some ⟨g, 0, none⟩) 0 cU) ls [] := by
  have oU := P.oU
  rcases oU.2 with ⟨_, h⟩ | ⟨g, cap, cur, hv, h1, h2, h3, h4, h5, h6⟩
  · simp at h
  · injection hv with hA _ hc
    subst hA
    refine ⟨g, rfl, ?_, ?_⟩
    · have := oU.cellAt 0 (by simp)
      rw [this]
      rfl
    · have hne := own_box_ne10 oU P.bU
      have o0 : wr.ownsRow w0.heap.size 27 1 (.slice (some ⟨g, 0, none⟩) 0 cU) 0 (ints .u64 []) := ⟨rfl, .inr ⟨g, cap, cur, by rw [hc], h1, h2, Nat.zero_le _, h4, h5, by simp [ints]⟩⟩
      exact ⟨(Below.heap_setCell _ _ _ _ P.ne).trans P.bL, boxed_set10 P.bU _, own_set10 P.oL (own_box_ne10 P.oL P.bU), own_set10 o0 hne, fun k hk => P.apart k hk, P.ne, P.lo, P.be.setCell P.lo.2 _⟩
theorem FacMid.last10 {N u : Nat} {ls : List Nat} (h : FacMid N ls [u] 1) (h0 : 0 < N) : u ≤ N := Nat.le_of_dvd h0 (by rw [← h.all, prodN_one, Nat.mul_one]; exact Nat.dvd_mul_left _ _)
theorem FacMid.popped {N u : Nat} {ls : List Nat} (h : FacMid N ls [u] 1) : FacMid N ls [] u := ⟨by rw [← h.all, prodN_one, prodN_nil, Nat.mul_one, Nat.mul_one], h.told, by simp⟩
theorem nth_word10 {l : List Nat} (h : Words l) (j : Nat) : nth l j < 18446744073709551616 := by
  unfold nth
  rw [List.getD_eq_getElem?_getD]
  cases hj : l[j]? with
  | none => simp
  | some y => simpa using h y (List.mem_of_getElem? hj)
theorem Told10.words10 {W : Nat → Prop} {N rest er : Nat} {l : List Nat} (h : Told10 W N l rest er) (h0 : 0 < N) (hN : N < 18446744073709551616) : Words l := fun x hx => by
  have := Nat.le_of_dvd h0 (Nat.dvd_trans (prodN_mem_dvd hx) (by rw [← h.all]; exact Nat.dvd_mul_right _ _))
  omega
/-- A store into a box leaves the row alone. -/
theorem OwnU.set11 {w : World} {base g t n : Nat} {A : Option Addr} {l : List Nat} {v0 : Value} (h : OwnU w base A n l) (b : Boxed w g t v0) (hv : ∀ k x, v0 ≠ .int k x) (v' : Value) : OwnU (w.setCell ⟨g, 0, none⟩ v') base A n l := by
  refine ⟨h.1, fun h0 => ?_⟩
  obtain ⟨gr, rfl, h1, h2, hc⟩ := h.2 h0
  have hne : gr ≠ g := by
    rintro rfl
    have h3 := (hc 0 h0).1
    rw [b.cell] at h3
    injection h3 with h3
    exact hv _ _ h3
  have hbk : (w.setCell ⟨g, 0, none⟩ v').heap[gr]? = w.heap[gr]? := Below.heap_setCell _ _ _ _ hne
  refine ⟨gr, rfl, h1, by simp [World.setCell]; omega, fun j hj => ?_⟩
  rw [World.cell?_of_block (a := ⟨gr, j, none⟩) hbk, World.frozen?_of_block (a := ⟨gr, j, none⟩) hbk]
  exact hc j hj
theorem results_box10 {fn : Func} {p u x : Tmp} {ty : TypeId} (h : fn.results = #[.cell p ty, .tmp u, .tmp x]) (tmps : Array Value) {P : Program} {w : World} {g : Nat} {A : Option Addr} {n c : Nat} (hp : tmps.getD p undef = .pointer (some ⟨g, 0, none⟩)) (hl : (loadVar ty ⟨g, 0, none⟩).run P w = .ok (.slice A n c) w) :
    (results fn tmps).run P w = .ok (.tuple #[.slice A n c, tmps.getD u undef, tmps.getD x undef]) w := by
  have e : (results fn tmps).run P w = ((asAddr (tmps.getD p undef)).run P w).andThen fun a w₁ => ((loadVar ty a).run P w₁).andThen fun v w₂ => .ok (.tuple #[v, tmps.getD u undef, tmps.getD x undef]) w₂ := by
    simp only [results, h]
    simp [Sem.run_bind, Result.andThen]
  rw [e, hp]
  have e2 : (asAddr (.pointer (some ⟨g, 0, none⟩))).run P w = .ok ⟨g, 0, none⟩ w := rfl
  rw [e2]
  show ((loadVar ty ⟨g, 0, none⟩).run P w).andThen _ = _
  rw [hl]
  rfl
theorem load_box10 {w : World} {g : Nat} {A : Option Addr} {n c : Nat} (hb : Boxed w g 24 (.slice A n c)) : (loadVar 24 ⟨g, 0, none⟩).run Tryz.prog w = .ok (.slice A n c) w := by
  have hc := hb.cell
  have hu : Tryz.prog.underlying 24 = some (.slice 27) := Tryz.underlying24
  go_simp
set_option maxHeartbeats 8000000 in
theorem factors10 {w : World} {A : Option Addr} {n c : Nat} {l : List Nat} (P : RowIs w A n c l) (hn : n ≤ 1000) (N : Nat) (hN0 : 0 < N) (hN : N < 18446744073709551616) :
    Calls Tryz.prog 17 #[.int .u64 N, .slice A n c] w fun e w' => ∃ X q d ls rest er, e = .returned (.tuple #[.slice X q d, .int .u64 ((rest : Nat) : Int), .int .i64 ((er : Nat) : Int)]) ∧ Told10 IsW N ls rest er ∧ RowIs w' X q d ls ∧ OwnU w' w.heap.size X q ls ∧ Below w.heap.size w w' := by
  have HPd := Lib.hid P
  have hz : ((N : Int) == 0) = false := by simp; omega
  have HT := Lib.hid (fun u : World => tried10 N hN0 hN u)
  clear P
  go_enter Tryz.func17, Tryz.ntmps17
  go_wp2_with fail
  go_step3
  go_wp2_with fail
  refine (HT.out _).mono ?_
  rintro e w1 ⟨ls0, m0, X0, d0, rfl, hTm, hTr, own1, b1⟩
  simp only [World.size_alloc] at own1 b1
  obtain ⟨gL, hgL⟩ : ∃ g, w.heap.size = g := ⟨_, rfl⟩
  obtain ⟨kb, hFA⟩ := FacAt.start gL hgL own1 b1
  have k1 := kb.cell
  have f1 := kb.frozen
  obtain ⟨gU, hgU⟩ : ∃ g, w1.heap.size = g := ⟨_, rfl⟩
  rw [hgU] at hFA
  have hm0 : m0 < 18446744073709551616 := by have := hTm.le hN0; omega
  have hl0 := hTm.few hN
  have HPut := Lib.hid (fun (wr : World) (vL vU : Value) (ls us : List Nat) (part : Nat) (P : Hid (FacAt w gL gU wr vL vU ls us)) (hp : part < 18446744073709551616) (hl : ls.length ≤ 1000) (hu : us.length ≤ 1000) => put10 w gL gU wr vL vU ls us P.out part hp hl hu)
  have C0 := Lib.hid (HPut.out _ _ _ ls0 [] m0 (Lib.hid hFA) hm0 (by omega) (by simp))
  have HMid := Lib.hid (show FacMid N ls0 [] (m0 * 1) from ⟨by rw [prodN_nil, Nat.mul_one, Nat.mul_one]; exact hTm.all, fun p hp => ⟨isW_prm (hTm.primes p hp), (hTm.primes p hp).1⟩, by simp⟩)
  have HMay := Lib.hid (mayPut_trial hTr hTm.pos)
  clear hTm hTr own1 b1 kb hFA hm0 hl0 HT
  go_wp2_with fail
  refine (C0.out).mono ?_
  rintro e w2 ⟨rfl, vL, vU, ls, us, hFA, hPut⟩
  have HFA := Lib.hid hFA
  have HM := Lib.hid (HMid.out.put HMay.out hPut)
  clear hFA hPut C0 HMid HMay k1 f1 hgU
  go_wp2_with fail
  go_step3
  go_wp2_with fail
  have hbox : True := trivial
  have HG := Lib.hid HFA.out.lo.1
  clear hbox
  go_loopg [5, 6] (waitN us) (fun k rv ev wr => ∃ (vL vU : Value) (ls us : List Nat), rv = .int .u64 1 ∧ ev = .int .i64 0 ∧ waitN us ≤ k ∧ Hid (FacAt w gL gU wr vL vU ls us) ∧ Hid (FacMid N ls us 1))
  case atStart => exact ⟨vL, vU, ls, us, rfl, rfl, Nat.le_refl _, HFA, HM⟩
  case round =>
    clear HFA HM
    obtain ⟨vL, vU, ls, us, rfl, rfl, hwk, HFA, HM⟩ := hrel
    rcases HM.out.one hN0 hN with hus | ⟨u, hus⟩
    · subst hus
      obtain ⟨AU, cU, rfl, _, _⟩ := own_form HFA.out.oU
      have kU := HFA.out.bU.cell
      simp only [List.length_nil] at kU
      obtain ⟨AL, cL, rfl, hcL, _⟩ := own_form HFA.out.oL
      have hlen := HM.out.few hN0 hN
      have CS := Lib.hid (sortRow8 HFA.out.oL (by omega) HFA.out.be.size)
      have kL := HFA.out.bL.cell
      have HL := Lib.hid HFA.out.bL
      have HNE := Lib.hid (own_box_ne10 HFA.out.oL HFA.out.bL)
      have HBe := Lib.hid HFA.out.be
      obtain ⟨q, hq⟩ : ∃ q, ls.length = q := ⟨_, rfl⟩
      have HQ := Lib.hid hq
      rw [hq] at CS kL HL HNE hcL hlen
      clear hq
      go_wp2_with fail
      refine (CS.out).mono ?_
      rintro e w5 ⟨rfl, l2, hperm, hrise, hrd, hbel, hblk, hown⟩
      have hL5 : Boxed w5 gL 24 (.slice AL q cL) := (hblk gL HL.out.lt (fun o h e => HNE.out (by rw [h, e]; rfl))).trans HL.out
      have k5 := hL5.cell
      have f5 := hL5.frozen
      have HL5 := Lib.hid hL5
      have HT10 := Lib.hid (FacMid.tell HM.out hperm hrise (.inl ⟨rfl, rfl⟩))
      have HRd := Lib.hid hrd
      have HB5 := Lib.hid (HBe.out.trans (hbel w.heap.size (Nat.le_refl _)))
      have HLe := Lib.hid (show l2.length = q by rw [← HQ.out]; exact hperm.length_eq)
      have HOw := Lib.hid hown
      clear hperm hrise hrd hbel hblk hL5 kL hown
      go_wp2_with fail
      rw [Exit.noGoto_ret]
      refine bodyPost_ret (results_box10 (p := 4) (u := 5) (x := 6) rfl _ rfl (load_box10 (boxed_set10 HL5.out (.slice AL q cL)))) rfl ?_
      exact ⟨AL, q, cL, l2, 1, 0, rfl, HT10.out, ⟨HLe.out, HT10.out.words10 hN0 hN, by omega, by have := HRd.out.box8 HL5.out (by intro k x h; cases h) (.slice AL q cL); simpa [World.setCell] using this, hcL⟩, HOw.out.set11 HL5.out (by intro k x h; cases h) _, HB5.out.setCell HG.out _⟩
    · subst hus
      obtain ⟨AU, cU, rfl, _, _⟩ := own_form HFA.out.oU
      simp only [List.length_cons, List.length_nil, Nat.zero_add] at HFA
      have kU := HFA.out.bU.cell
      have fU := HFA.out.bU.frozen
      obtain ⟨gR, rfl, hcell, hFP⟩ := FacAt.pop HFA.out
      have HFP := Lib.hid hFP
      have hu := Lib.hid (HM.out.wait u List.mem_cons_self)
      have huN : u < 18446744073709551616 := by have := (show u ≤ N from HM.out.last10 hN0); omega
      have hu2 : 2 ≤ u := hu.out.1
      clear hFP
      go_wp2_with fail
      have HM1 := Lib.hid (HM.out.popped)
      clear hcell
      go_loopw [41] (fun jv wr2 => ∃ j : Nat, jv = .int .i64 j ∧ j ≤ n ∧ Hid (FacAt w gL gU wr2 vL (.slice (some ⟨gR, 0, none⟩) 0 cU) ls [])) (fun jv _ => n - (intOf jv).toNat)
      case atStart => exact ⟨0, rfl, Nat.zero_le _, HFP⟩
      case round =>
        clear HFP
        obtain ⟨j, rfl, hjn, HF2⟩ := hrel
        by_cases hlt : j < n
        · have hP2 := HPd.out.step HF2.out.be
          obtain ⟨hll, hwl, _, hrd, _⟩ := hP2
          obtain ⟨gA, oA, hA, hgA, hcA⟩ := hrd (by omega)
          subst hA
          have hc1 := hcA j (by omega)
          obtain ⟨x, hx⟩ : ∃ x, nth l j = x := ⟨_, rfl⟩
          rw [hx] at hc1
          have hxl : x < 18446744073709551616 := by rw [← hx]; exact nth_word10 hwl j
          obtain ⟨R, hR⟩ : ∃ R, splitD u x 65536 = R := ⟨_, rfl⟩
          by_cases hR0 : R = 0
          · have CSp := Lib.hid (fun v => split10 u x 65536 huN hxl (by omega) R hR false ⟨fun h => (Bool.false_ne_true h).elim, fun h => absurd hR0 h⟩ v)
            clear hR hR0 hcA hrd hll hwl hx
            go_wp2_with fail
            refine (CSp.out _).mono ?_
            rintro e w3 ⟨rfl, b3⟩
            have HF3 := Lib.hid (HF2.out.keep b3)
            clear b3
            go_wp2_with fail
            go_roundw
            case rel => exact ⟨j + 1, by go_num, by omega, HF3⟩
            case measure => simp [intOf]; omega
          · have CSp := Lib.hid (fun v => split10 u x 65536 huN hxl (by omega) R hR true ⟨fun _ => hR0, fun _ => rfl⟩ v)
            obtain ⟨hd1, hd2, hd3⟩ := splitD_dvd (n := u) (c := x) (most := 65536) (by rw [hR]; exact hR0)
            rw [hR] at hd1 hd2 hd3
            obtain ⟨q, hq⟩ : ∃ q, u / R = q := ⟨_, rfl⟩
            have hqI : (u : Int) / (R : Int) = (q : Int) := by rw [← hq]; simp
            have hRz : ((R : Int) == 0) = false := by simp; omega
            have hqm : R * q = u := by rw [← hq]; exact Nat.mul_div_cancel' hd1
            have hqd : q ∣ u := ⟨R, by rw [← hqm, Nat.mul_comm]⟩
            have hql : q < u := by rw [← hq]; exact Nat.div_lt_self (by omega) hd2
            have HY1 := Lib.hid (mayPut_part hu.out.2.2 hd1 (by omega))
            have HY2 := Lib.hid (mayPut_part hu.out.2.2 hqd (by omega))
            have HM2 := Lib.hid (show FacMid N ls [] (R * (q * 1)) by rw [Nat.mul_one, hqm]; exact HM1.out)
            have hlsl := HM1.out.few hN0 hN
            clear hR hR0 hcA hrd hll hwl hx hq hqm hqd hd1
            go_wp2_with fail
            refine (CSp.out _).mono ?_
            rintro e w3 ⟨rfl, b3⟩
            have HF3 := Lib.hid (HF2.out.keep b3)
            clear b3
            go_wp2_with fail
            refine (HPut.out w3 _ _ ls [] R HF3 (by omega) (by omega) (by simp)).mono ?_
            rintro e w4 ⟨rfl, vL4, vU4, ls4, us4, hF4, hP4⟩
            have HF4 := Lib.hid hF4
            have HP4 := Lib.hid hP4
            have HM4 := Lib.hid (HM2.out.put HY1.out hP4)
            have hl4 := HM4.out.few hN0 hN
            have hu4 : us4.length ≤ 1000 := by rcases HM4.out.one hN0 hN with h | ⟨y, h⟩ <;> simp [h]
            clear hF4 hP4
            go_wp2_with fail
            refine (HPut.out w4 _ _ ls4 us4 q HF4 (by omega) (by omega) hu4).mono ?_
            rintro e w5 ⟨rfl, vL5, vU5, ls5, us5, hF5, hP5⟩
            have HF5 := Lib.hid hF5
            have HM5 := Lib.hid (HM4.out.put HY2.out hP5)
            have HWt := Lib.hid (show waitN us5 < u from waitN_lt (HM5.out.one hN0 hN) (fun y hy => by
              rcases hP5.mem y hy with h | h
              · rcases HP4.out.mem y h with h2 | h2
                · cases h2
                · omega
              · omega) (by omega))
            have HWk := Lib.hid (show u ≤ gk from by simpa [waitN] using hwk)
            clear hF5 hP5 hu4
            go_wp2_with fail
            go_roundg (waitN us5)
            case rel => exact ⟨vL5, vU5, ls5, us5, rfl, rfl, Nat.le_refl _, HF5, HM5⟩
            case measure => have h1 := HWt.out; have h2 := HWk.out; omega
        · obtain rfl : j = n := by omega
          have HF6 := HF2
          clear HF2
          obtain ⟨AL, cL, rfl, hcL, _⟩ := own_form HF6.out.oL
          have hlen := HM1.out.few hN0 hN
          have CS := Lib.hid (sortRow8 HF6.out.oL (by omega) HF6.out.be.size)
          have kL := HF6.out.bL.cell
          have HL := Lib.hid HF6.out.bL
          have HNE := Lib.hid (own_box_ne10 HF6.out.oL HF6.out.bL)
          have HBe := Lib.hid HF6.out.be
          obtain ⟨q, hq⟩ : ∃ q, ls.length = q := ⟨_, rfl⟩
          have HQ := Lib.hid hq
          rw [hq] at CS kL HL HNE hcL hlen
          clear hq
          go_wp2_with fail
          refine (CS.out).mono ?_
          rintro e w5 ⟨rfl, l2, hperm, hrise, hrd, hbel, hblk, hown⟩
          have hL5 : Boxed w5 gL 24 (.slice AL q cL) := (hblk gL HL.out.lt (fun o h e => HNE.out (by rw [h, e]; rfl))).trans HL.out
          have k5 := hL5.cell
          have f5 := hL5.frozen
          have HL5 := Lib.hid hL5
          have HT10 := Lib.hid (FacMid.tell HM1.out hperm hrise (.inr ⟨rfl, by omega, hu.out.2.1, hu.out.2.2⟩))
          have HRd := Lib.hid hrd
          have HB5 := Lib.hid (HBe.out.trans (hbel w.heap.size (Nat.le_refl _)))
          have HLe := Lib.hid (show l2.length = q by rw [← HQ.out]; exact hperm.length_eq)
          have HOw := Lib.hid hown
          clear hperm hrise hrd hbel hblk hL5 kL hown
          go_wp2_with fail
          rw [Exit.noGoto_ret]
          refine bodyPost_ret (results_box10 (p := 4) (u := 5) (x := 6) rfl _ rfl (load_box10 (boxed_set10 HL5.out (.slice AL q cL)))) rfl ?_
          exact ⟨AL, q, cL, l2, u, 11, rfl, HT10.out, ⟨HLe.out, HT10.out.words10 hN0 hN, by omega, by have := HRd.out.box8 HL5.out (by intro k x h; cases h) (.slice AL q cL); simpa [World.setCell] using this, hcL⟩, HOw.out.set11 HL5.out (by intro k x h; cases h) _, HB5.out.setCell HG.out _⟩
end Go.Proofs.YtjpfcdgaepdcdaaGreat
/- The document's rows and trying of chapter 10. Conditions: numbers below 2^62 (rows), below 2^32 (trying). -/
namespace Go.Proofs.YtjpfcdgaepdcdaaGreat
open Go.RowKit
set_option maxRecDepth 20000
end Go.Proofs.YtjpfcdgaepdcdaaGreat
/- rho's contracts, as laws use them. Conditions: as typed (words; up to a thousand draws). -/
namespace Go.Proofs.YtjpfcdgaepdcdaaGreat
open Go.RowKit
/-- What the row lists, as the contracts ask it: nothing, as long as no table is read. -/
def LaidR (_ : World) : Prop := True
theorem LaidR.below {w w' : World} (_ : LaidR w) (_ : Below w.heap.size w w') : LaidR w' := trivial
end Go.Proofs.YtjpfcdgaepdcdaaGreat
/- pratt's Build$1 (show), walked: it calls itself. Conditions: as typed; what prime.Is takes, up to M, are primes. -/
namespace Go.Proofs.YtjpfcdgaepdcdaaGreat
open Go.RowKit
open Go.Maps (Keyed int_keyed)
set_option maxRecDepth 20000
/-- Blocks of the call's own that are not written any more. -/
def In4 (lo : Nat) (u : World) (gL B : Nat) (vL : Value) (b : Nat) : Prop := lo ≤ b ∧ b < u.heap.size ∧ b ≠ gL ∧ b ≠ B ∧ vL.ownBlock ≠ some b
def ShownU (w : World) (b n : Nat) (la : List Nat) : Prop := SetAt Tryz.prog w 27 4 b n fun kl => ∃ m ∈ la, kl = .int .u64 (m : Int)
theorem shownU_key {la : List Nat} {m : Nat} : (∃ x ∈ la, (Lit.int .u64 (m : Int)) = .int .u64 (x : Int)) ↔ m ∈ la :=
  ⟨fun ⟨x, hx, e⟩ => by
    injection e with _ e
    have : m = x := by omega
    rw [this]; exact hx, fun h => ⟨m, h, rfl⟩⟩
theorem keyU11 {m : Nat} (h : m < 18446744073709551616) : keyOf Tryz.prog 27 (.int .u64 (m : Int)) = some (.int .u64 (m : Int)) := Go.Maps.keyOf_int_mk Tryz.underlying27 (by
  simp [Lit.wf, IntKind.min, IntKind.max, IntKind.signed, IntKind.bits]; omega)
theorem ShownU.look {w : World} {b n : Nat} {la : List Nat} (h : ShownU w b n la) {m : Nat} (hm : m < 18446744073709551616) (x : Bool) (hx : x = true ↔ m ∈ la) :
    (Instr.lookup 42 (.map (some b)) (.int .u64 (m : Int)) false).run Tryz.prog w = .ok (.bool x) w :=
  SetAt.look h (int_keyed Tryz.underlying27) Tryz.underlying42 Tryz.underlying4 (by kernel_rfl) (keyU11 hm) x (hx.trans shownU_key.symm)
theorem ShownU.put {w : World} {b n : Nat} {la : List Nat} (h : ShownU w b n la) (hn : n < maxLen) {m : Nat} (hm : m < 18446744073709551616) :
    ∃ w', (Instr.mapUpdate 42 (.map (some b)) (.int .u64 (m : Int)) (.bool true)).run Tryz.prog w = .ok () w' ∧ ShownU w' b (n + 1) (la ++ [m]) ∧ w.grownBy w' (some b) := by
  obtain ⟨w', h1, h2, h3⟩ := SetAt.put h (int_keyed Tryz.underlying27) Tryz.underlying42 Tryz.underlying4 hn (keyU11 hm)
  refine ⟨w', h1, h2.same fun kl => ?_, h3⟩
  constructor
  · rintro (rfl | ⟨x, hx, rfl⟩)
    · exact ⟨m, by simp, rfl⟩
    · exact ⟨x, List.mem_append_left _ hx, rfl⟩
  · rintro ⟨x, hx, rfl⟩
    rcases List.mem_append.1 hx with h4 | h4
    · exact .inr ⟨x, h4, rfl⟩
    · exact .inl (by rw [List.mem_singleton.1 h4])
theorem SetAt.ne_box {P : Program} {w : World} {k e : TypeId} {b n g : Nat} {S : Lit → Prop} {t : TypeId} {v : Value} (h : SetAt P w k e b n S) (hb : Boxed w g t v) : g ≠ b := by
  obtain ⟨D, ⟨es, clock, h1, _⟩, _⟩ := h
  rintro rfl
  have h2 : w.heap[g]? = some (.cells #[v] t (0, 0)) := hb
  rw [h1] at h2
  cases h2
theorem SetAt.ne_own {P : Program} {w : World} {k e : TypeId} {b n base size m : Nat} {S : Lit → Prop} {t : TypeId} {v : Value} {xs : List Value} (h : SetAt P w k e b n S) (o : w.ownsRow base t size v m xs) : v.ownBlock ≠ some b := by
  obtain ⟨D, ⟨es, clock, h1, _⟩, _⟩ := h
  rcases o.2 with ⟨rfl, _⟩ | ⟨g, cap, cur, rfl, _, hh, _⟩
  · simp [Value.ownBlock]
  · intro e
    simp only [Value.ownBlock, Option.some.injEq] at e
    subst e
    rw [h1] at hh
    cases hh
theorem Boxed.ne11 {w : World} {g g' : Nat} {t t' : TypeId} {v v' : Value} (h : Boxed w g t v) (k : Boxed w g' t' v') (ht : t ≠ t') : g ≠ g' := by
  rintro rfl
  have h1 : w.heap[g]? = some (.cells #[v] t (0, 0)) := h
  have h2 : w.heap[g]? = some (.cells #[v'] t' (0, 0)) := k
  rw [h1] at h2
  injection h2 with h2
  injection h2 with _ h2
  exact ht h2
/-- The closure's value, with what it holds. -/
def showFn (gM gD gS gL : Nat) : Value := .func (.func 16) #[] #[.pointer (some ⟨gM, 0, none⟩), .pointer (some ⟨gD, 0, none⟩), .pointer (some ⟨gS, 0, none⟩), .pointer (some ⟨gL, 0, none⟩)]
/-- The world while a certificate is built. -/
structure BAt (w0 u : World) (gM gD gS gL B : Nat) (AD : Option Addr) (nD cD : Nat) (ld : List Nat) (nm : Nat) (la : List Nat) (vL : Value) (ss : List SRaw) : Prop where
  bM : Boxed u gM 42 (.map (some B))
  bD : Boxed u gD 24 (.slice AD nD cD)
  bS : Boxed u gS 43 (showFn gM gD gS gL)
  bL : Boxed u gL 23 vL
  sh : ShownU u B nm la
  own : ∃ xs, u.ownsRow w0.heap.size 37 3 vL ss.length xs ∧ ∀ j (hj : j < ss.length), ∃ vP vG vQ, xs[j * 3]? = some vP ∧ xs[j * 3 + 1]? = some vG ∧ xs[j * 3 + 2]? = some vQ ∧
    NatS u (In4 w0.heap.size u gL B vL) vP ss[j].P ∧ NatS u (In4 w0.heap.size u gL B vL) vG ss[j].G ∧ QS u (In4 w0.heap.size u gL B vL) vQ ss[j].Q
  draws : Rd .u64 u w0.heap.size AD ld
  lo : w0.heap.size ≤ gL ∧ w0.heap.size ≤ B
  be : Below w0.heap.size w0 u
/-- What may have changed: the list, its row, the map. -/
structure Mv (gL B : Nat) (u : World) (vL : Value) (u' : World) (vL' : Value) : Prop where
  size : u.heap.size ≤ u'.heap.size
  same : ∀ b, b < u.heap.size → b ≠ gL → b ≠ B → vL.ownBlock ≠ some b → u'.heap[b]? = u.heap[b]?
  own : vL'.ownBlock = vL.ownBlock ∨ ∃ g, vL'.ownBlock = some g ∧ u.heap.size ≤ g
theorem Mv.of_below {gL B : Nat} {u u' : World} (vL : Value) (b : Below u.heap.size u u') : Mv gL B u vL u' vL := ⟨b.size, fun k hk _ _ _ => b.block k hk, .inl rfl⟩
theorem Mv.trans {gL B : Nat} {u u' u'' : World} {vL vL' vL'' : Value} (h : Mv gL B u vL u' vL') (k : Mv gL B u' vL' u'' vL'') : Mv gL B u vL u'' vL'' := by
  refine ⟨Nat.le_trans h.size k.size, fun b h1 h2 h3 h4 => (k.same b (Nat.lt_of_lt_of_le h1 h.size) h2 h3 ?_).trans (h.same b h1 h2 h3 h4), ?_⟩
  · rcases h.own with e | ⟨g, e, hg⟩
    · rw [e]; exact h4
    · rw [e]; intro e2; injection e2 with e2; omega
  · have := h.size
    rcases k.own with e | ⟨g, e, hg⟩
    · rw [e]; exact h.own
    · exact .inr ⟨g, e, by omega⟩
/-- A row of the call's own that is not written any more: the primes of one less. -/
def FAt (u : World) (gL B : Nat) (vL : Value) (A : Option Addr) (m : Nat) (qs : List Nat) : Prop :=
  0 < m → ∃ g, A = some ⟨g, 0, none⟩ ∧ g < u.heap.size ∧ g ≠ gL ∧ g ≠ B ∧ vL.ownBlock ≠ some g ∧ ∀ j, j < m → u.cell? ⟨g, j, none⟩ = some (.int .u64 (nth qs j : Int))
theorem FAt.mv {gL B m : Nat} {u u' : World} {vL vL' : Value} {A : Option Addr} {qs : List Nat} (h : FAt u gL B vL A m qs) (k : Mv gL B u vL u' vL') : FAt u' gL B vL' A m qs := fun h0 => by
  obtain ⟨g, e, h1, h2, h3, h4, h5⟩ := h h0
  refine ⟨g, e, Nat.lt_of_lt_of_le h1 k.size, h2, h3, ?_, fun j hj => (World.cell?_of_block (a := ⟨g, j, none⟩) (k.same g h1 h2 h3 h4)).trans (h5 j hj)⟩
  rcases k.own with e2 | ⟨g2, e2, hg⟩
  · rw [e2]; exact h4
  · rw [e2]; intro e3; injection e3 with e3; omega
section
variable {w0 u u' : World} {gM gD gS gL B : Nat} {AD : Option Addr} {nD cD : Nat} {ld : List Nat} {nm : Nat} {la : List Nat} {vL : Value} {ss : List SRaw}
theorem BAt.step (h : BAt w0 u gM gD gS gL B AD nD cD ld nm la vL ss) (b : Below u.heap.size u u') : BAt w0 u' gM gD gS gL B AD nD cD ld nm la vL ss := by
  have hk : ∀ k, In4 w0.heap.size u gL B vL k → u'.heap[k]? = u.heap[k]? := fun k hk => b.block k hk.2.1
  have hS : ∀ k, In4 w0.heap.size u gL B vL k → In4 w0.heap.size u' gL B vL k := fun k hk => ⟨hk.1, Nat.lt_of_lt_of_le hk.2.1 b.size, hk.2.2⟩
  obtain ⟨xs, h1, h2⟩ := h.own
  refine ⟨(b.block _ h.bM.lt).trans h.bM, (b.block _ h.bD.lt).trans h.bD, (b.block _ h.bS.lt).trans h.bS, (b.block _ h.bL.lt).trans h.bL, SetAt.below h.sh b,
    ⟨xs, h1.kept (row := none) ⟨b.os, b.tape, b.output, b.size, fun k hk _ => b.block k hk⟩ (by cases vL.ownBlock <;> simp), fun j hj => ?_⟩, h.draws.below (b.mono h.be.size), h.lo, below_step h.be b⟩
  obtain ⟨vP, vG, vQ, h3, h4, h5, h6, h7, h8⟩ := h2 j hj
  exact ⟨vP, vG, vQ, h3, h4, h5, h6.keep hk hS, h7.keep hk hS, h8.keep hk hS⟩
theorem BAt.fresh (h : BAt w0 u gM gD gS gL B AD nD cD ld nm la vL ss) (k : Nat) (hk : u.heap.size ≤ k ∧ k < u'.heap.size) : In4 w0.heap.size u' gL B vL k := by
  obtain ⟨xs, h1, _⟩ := h.own
  have h2 := h.bL.lt
  have h3 := SetAt.lt h.sh
  have h4 := h.be.size
  refine ⟨by omega, hk.2, by omega, by omega, fun e => ?_⟩
  have := (h1.lt k e).2
  omega
theorem step_info11 : (Tryz.prog.info? 37).map (fun i => (i.zero, i.size, i.bytes)) = some (some (.agg #[.slice none 0 0, .slice none 0 0, .slice none 0 0]), 3, 72) := by kernel_rfl
/-- Behind a step more. -/
theorem BAt.append (h : BAt w0 u gM gD gS gL B AD nD cD ld nm la vL ss) (hn : ss.length ≤ 1000) {AP AG AQ : Option Addr} {nP cP nG cG nQ cQ : Nat} {s : SRaw} (hP : NatS u (In4 w0.heap.size u gL B vL) (.slice AP nP cP) s.P) (hG : NatS u (In4 w0.heap.size u gL B vL) (.slice AG nG cG) s.G) (hQ : QS u (In4 w0.heap.size u gL B vL) (.slice AQ nQ cQ) s.Q) :
    ∃ v' u3, (Builtin.append_ #[23, 23] 23 #[vL, .slice (some ⟨u.heap.size, 0, none⟩) 1 1]).run Tryz.prog (u.alloc (.cells #[.slice AP nP cP, .slice AG nG cG, .slice AQ nQ cQ] 37)) = .ok v' u3 ∧ Boxed u3 gL 23 vL ∧
      BAt w0 (u3.setCell ⟨gL, 0, none⟩ v') gM gD gS gL B AD nD cD ld nm la v' (ss ++ [s]) ∧ Mv gL B u vL (u3.setCell ⟨gL, 0, none⟩ v') v' := by
  obtain ⟨i0, hi, hz0, hz1, hz2⟩ := info_parts step_info11
  obtain ⟨xs, own, hel⟩ := h.own
  have hsz := h.be.size
  obtain ⟨v', u3, hrun, own', hg, _, hb'⟩ := run_append_own_at (P := Tryz.prog) (u.alloc (.cells #[.slice AP nP cP, .slice AG nG cG, .slice AQ nQ cQ] 37)) w0.heap.size 23 23 37 i0 _ 3 72 Tryz.underlying23 hi hz0 hz1 hz2 rfl (by omega) vL ss.length xs (own.alloc _)
    ⟨u.heap.size, 0, none⟩ 1 1 [.slice AP nP cP, .slice AG nG cG, .slice AQ nQ cQ] rfl (fun j y hy => by
      have := (MapKept.heap_alloc u (.cells #[.slice AP nP cP, .slice AG nG cG, .slice AQ nQ cQ] 37)).1
      rcases j with _ | _ | _ | j
      · simp at hy; subst hy
        unfold World.cell?
        rw [show ((⟨u.heap.size, 0, none⟩ : Addr).add 0) = ⟨u.heap.size, 0, none⟩ from rfl, this]
        rfl
      · simp at hy; subst hy
        unfold World.cell?
        rw [show ((⟨u.heap.size, 0, none⟩ : Addr).add (0 + 1)) = ⟨u.heap.size, 1, none⟩ from rfl, this]
        rfl
      · simp at hy; subst hy
        unfold World.cell?
        rw [show ((⟨u.heap.size, 0, none⟩ : Addr).add (0 + 1 + 1)) = ⟨u.heap.size, 2, none⟩ from rfl, this]
        rfl
      · simp at hy) (fun y hy => by
      simp only [List.mem_cons, List.not_mem_nil, or_false] at hy
      rcases hy with rfl | rfl | rfl <;> rfl) (by unfold maxLen; omega) (by omega) (by simp; omega)
  have hblk : ∀ k, k < u.heap.size → vL.ownBlock ≠ some k → u3.heap[k]? = u.heap[k]? := fun k hk hne => (hg.block k (by simp; omega) (fun e => hne e.symm)).trans (Below.heap_alloc _ _ _ hk)
  have nb : ∀ {g : Nat} {t : TypeId} {v : Value}, Boxed u g t v → t ≠ 37 → vL.ownBlock ≠ some g := fun hb ht e => Boxed.not_row hb ht own e.symm
  have nL := nb h.bL (by decide)
  have bL3 : Boxed u3 gL 23 vL := (hblk _ h.bL.lt nL).trans h.bL
  have own3 : u3.ownsRow w0.heap.size 37 3 v' (ss.length + 1) (xs ++ [.slice AP nP cP, .slice AG nG cG, .slice AQ nQ cQ]) := own'
  have hne3 : v'.ownBlock ≠ some gL := fun e => Boxed.not_row bL3 (by decide) own3 e.symm
  have h3s : u.heap.size < u3.heap.size := by have := hg.size; simp at this; omega
  have hset : ∀ k, k ≠ gL → (u3.setCell ⟨gL, 0, none⟩ v').heap[k]? = u3.heap[k]? := fun k hk => Below.heap_setCell _ _ _ _ hk
  have hold : ∀ k, k < u.heap.size → k ≠ gL → vL.ownBlock ≠ some k → (u3.setCell ⟨gL, 0, none⟩ v').heap[k]? = u.heap[k]? := fun k h1 h2 h3 => (hset k h2).trans (hblk k h1 h3)
  have hbox : ∀ {g : Nat} {t : TypeId} {v : Value}, Boxed u g t v → t ≠ 37 → t ≠ 23 → Boxed (u3.setCell ⟨gL, 0, none⟩ v') g t v := fun hb h1 h2 =>
    (hold _ hb.lt (Boxed.ne11 hb h.bL h2) (nb hb h1)).trans hb
  have hk : ∀ k, In4 w0.heap.size u gL B vL k → (u3.setCell ⟨gL, 0, none⟩ v').heap[k]? = u.heap[k]? := fun k hk => hold k hk.2.1 hk.2.2.1 hk.2.2.2.2
  have hS : ∀ k, In4 w0.heap.size u gL B vL k → In4 w0.heap.size (u3.setCell ⟨gL, 0, none⟩ v') gL B v' k := fun k hk => by
    refine ⟨hk.1, by have := hk.2.1; simp [World.setCell]; omega, hk.2.2.1, hk.2.2.2.1, ?_⟩
    rcases hb' with e | e
    · rw [e]; exact hk.2.2.2.2
    · rw [e]; intro e2; injection e2 with e2; have := hk.2.1; simp at e2; omega
  have hgs : u3.grownBy (u3.setCell ⟨gL, 0, none⟩ v') (some gL) := ⟨rfl, rfl, rfl, by simp [World.setCell], fun k _ hk => hset k (fun e => hk (by rw [e]))⟩
  have nBL : gL ≠ B := SetAt.ne_box h.sh h.bL
  refine ⟨v', u3, hrun, bL3, ⟨hbox h.bM (by decide) (by decide), hbox h.bD (by decide) (by decide), hbox h.bS (by decide) (by decide), boxed_set10 bL3 v', ?_, ⟨xs ++ [.slice AP nP cP, .slice AG nG cG, .slice AQ nQ cQ], ?_, fun j hj => ?_⟩, ?_, h.lo, ?_⟩, ⟨by simp [World.setCell]; omega, fun b h1 h2 _ h4 => hold b h1 h2 h4, ?_⟩⟩
  · exact SetAt.kept (SetAt.kept (SetAt.kept h.sh (World.grownBy_alloc u _ none) (by simp)) hg (fun e => SetAt.ne_own h.sh own e.symm)) hgs (fun e => nBL (by injection e with e; exact e.symm))
  · have := own3.kept hgs (.inr hne3)
    simpa using this
  · have hxl : xs.length = ss.length * 3 := own.1
    rcases Nat.lt_or_ge j ss.length with h5 | h5
    · obtain ⟨vP, vG, vQ, h6, h7, h8, h9, ha, hb⟩ := hel j h5
      refine ⟨vP, vG, vQ, by rw [List.getElem?_append_left (by omega)]; exact h6, by rw [List.getElem?_append_left (by omega)]; exact h7, by rw [List.getElem?_append_left (by omega)]; exact h8, ?_⟩
      rw [List.getElem_append_left h5]
      exact ⟨h9.keep hk hS, ha.keep hk hS, hb.keep hk hS⟩
    · have : j = ss.length := by simp at hj; omega
      subst this
      refine ⟨.slice AP nP cP, .slice AG nG cG, .slice AQ nQ cQ, by rw [List.getElem?_append_right (by omega), hxl]; simp, by rw [List.getElem?_append_right (by omega), hxl, show ss.length * 3 + 1 - ss.length * 3 = 1 by omega]; rfl, by rw [List.getElem?_append_right (by omega), hxl, show ss.length * 3 + 2 - ss.length * 3 = 2 by omega]; rfl, ?_⟩
      rw [List.getElem_append_right (Nat.le_refl _)]
      simp only [Nat.sub_self, List.getElem_cons_zero]
      exact ⟨hP.keep hk hS, hG.keep hk hS, hQ.keep hk hS⟩
  · have b0 : Below w0.heap.size u (u3.setCell ⟨gL, 0, none⟩ v') := Below.setCell (Below.grown ((Below.refl _ u).alloc hsz _) hg (by simp; omega) fun k e => (own.lt k e).1) h.lo.1 _
    exact h.draws.below b0
  · exact Below.setCell (Below.grown (h.be.alloc hsz _) hg (by simp; omega) fun k e => (own.lt k e).1) h.lo.1 _
  · rcases hb' with e | e
    · exact .inl e
    · exact .inr ⟨_, e, by simp⟩
/-- Behind a number more in the map. -/
theorem BAt.put (h : BAt w0 u gM gD gS gL B AD nD cD ld nm la vL ss) {m : Nat} (sh : ShownU u' B (nm + 1) (la ++ [m])) (hg : u.grownBy u' (some B)) : BAt w0 u' gM gD gS gL B AD nD cD ld (nm + 1) (la ++ [m]) vL ss ∧ Mv gL B u vL u' vL := by
  have hblk : ∀ k, k < u.heap.size → k ≠ B → u'.heap[k]? = u.heap[k]? := fun k hk hne => hg.block k hk (fun e => hne (by injection e))
  obtain ⟨xs, own, hel⟩ := h.own
  have hk : ∀ k, In4 w0.heap.size u gL B vL k → u'.heap[k]? = u.heap[k]? := fun k hk => hblk k hk.2.1 hk.2.2.2.1
  have hS : ∀ k, In4 w0.heap.size u gL B vL k → In4 w0.heap.size u' gL B vL k := fun k hk => ⟨hk.1, Nat.lt_of_lt_of_le hk.2.1 hg.size, hk.2.2⟩
  have b0 : Below w0.heap.size u u' := (Below.refl w0.heap.size u).grown hg h.be.size fun k e => by injection e with e; rw [← e]; exact h.lo.2
  have hbox : ∀ {g : Nat} {t : TypeId} {v : Value}, Boxed u g t v → Boxed u' g t v := fun hb => (hblk _ hb.lt (SetAt.ne_box h.sh hb)).trans hb
  refine ⟨⟨hbox h.bM, hbox h.bD, hbox h.bS, hbox h.bL, sh, ⟨xs, own.kept hg (.inr (SetAt.ne_own h.sh own)), fun j hj => ?_⟩, h.draws.below b0, h.lo, h.be.trans b0⟩, ⟨hg.size, fun b h1 _ h3 _ => hblk b h1 h3, .inl rfl⟩⟩
  obtain ⟨vP, vG, vQ, h3, h4, h5, h6, h7, h8⟩ := hel j hj
  exact ⟨vP, vG, vQ, h3, h4, h5, h6.keep hk hS, h7.keep hk hS, h8.keep hk hS⟩
theorem BAt.row (h : BAt w0 u gM gD gS gL B AD nD cD ld nm la vL ss) (hl : ld.length = nD) (hw : Words ld) (hn : nD ≤ 1000) (hc : nD ≤ cD) : RowIs u AD nD cD ld := ⟨hl, hw, by omega, h.draws.more h.be.size, hc⟩
end
/-- The numbers that steps show. -/
def Ps (ss : List SRaw) : List Nat := ss.map fun s => natOf s.P
theorem Ps_append (ss tt : List SRaw) : Ps (ss ++ tt) = Ps ss ++ Ps tt := List.map_append
theorem mem_Ps {ss : List SRaw} {q : Nat} : q ∈ Ps ss ↔ ∃ s ∈ ss, natOf s.P = q := List.mem_map
/-- What show tells of p. -/
structure Told12 (p : Nat) (ss new : List SRaw) (er : Nat) : Prop where
  ends : er = 0 ∨ (er = 11 ∧ 4294967296 ≤ p)
  shown : er = 0 → ShownBy (ss ++ new) p
  few : new.length = 0 ∨ (0 < new.length ∧ 2 ^ (new.length + 15) ≤ p)
  last : er = 0 → 65536 ≤ p → p ∉ Ps ss → ∃ r s, new = r ++ [s] ∧ natOf s.P = p
def ShowOut (w0 u : World) (gM gD gS gL B : Nat) (AD : Option Addr) (nD cD : Nat) (ld : List Nat) (vL : Value) (ss : List SRaw) (p : Nat) (e : Ending) (u' : World) : Prop :=
  ∃ (er : Nat) (vL' : Value) (new : List SRaw), e = .returned (.int .i64 ((er : Nat) : Int)) ∧ BAt w0 u' gM gD gS gL B AD nD cD ld (ss ++ new).length (Ps (ss ++ new)) vL' (ss ++ new) ∧ Mv gL B u vL u' vL' ∧ Good (ss ++ new) ∧ Told12 p ss new er
theorem ShowOut.none {w0 u : World} {gM gD gS gL B : Nat} {AD : Option Addr} {nD cD : Nat} {ld : List Nat} {vL : Value} {ss : List SRaw} {p : Nat} (h : BAt w0 u gM gD gS gL B AD nD cD ld ss.length (Ps ss) vL ss) (hg : Good ss) (hs : ShownBy ss p) (hl : 65536 ≤ p → p ∈ Ps ss) : ShowOut w0 u gM gD gS gL B AD nD cD ld vL ss p (.returned (.int .i64 0)) u :=
  ⟨0, vL, [], rfl, by rw [List.append_nil]; exact h, ⟨Nat.le_refl _, fun _ _ _ _ _ => rfl, .inl rfl⟩, by rw [List.append_nil]; exact hg, ⟨.inl rfl, fun _ => by rw [List.append_nil]; exact hs, .inl rfl, fun _ h1 h2 => absurd (hl h1) h2⟩⟩
theorem told_word11 {p : Nat} {ls : List Nat} {rest er : Nat} (h : Told10 IsW (p - 1) ls rest er) (hp : 3 ≤ p) (he : er ≠ 0) : er = 11 ∧ 4294967296 ≤ p := by
  refine ⟨?_, ?_⟩
  · rcases h.ends with ⟨h1, _⟩ | ⟨h1, _⟩
    · exact absurd h1 he
    · exact h1
  · rcases Nat.lt_or_ge (p - 1) 4294967296 with h1 | h1
    · exact absurd (h.small isW_small (by omega) h1).1 he
    · omega
/-- All of the first so many are shown. -/
def ShownTo (ss : List SRaw) (qs : List Nat) (j : Nat) : Prop := ∀ i (hi : i < qs.length), i < j → ShownBy ss qs[i]
theorem ShownTo.next {ss new : List SRaw} {qs : List Nat} {j q : Nat} (h : ShownTo ss qs j) (hj : j < qs.length) (hq : qs[j] = q) (hs : ShownBy (ss ++ new) q) : ShownTo (ss ++ new) qs (j + 1) := fun i hi hlt => by
  rcases Nat.lt_succ_iff_lt_or_eq.1 hlt with h1 | rfl
  · exact (h i hi h1).more
  · rw [hq]; exact hs
theorem ShownTo.all {ss : List SRaw} {qs : List Nat} (h : ShownTo ss qs qs.length) : ∀ q ∈ qs, ShownBy ss q := fun q hq => by
  obtain ⟨i, hi, rfl⟩ := List.mem_iff_getElem.1 hq
  exact h i hi hi
def InFlagP (z : Bool) (p : Nat) (la : List Nat) : Prop := z = true ↔ p ∈ la
set_option maxHeartbeats 16000000 in
theorem show11 {w0 : World} {gM gD gS gL B : Nat} {AD : Option Addr} {nD cD : Nat} {ld : List Nat} {M : Nat} (hld : ld.length = nD) (hwd : Words ld) (hnD : nD ≤ 1000) (hcD : nD ≤ cD) (hW : ∀ x, x ≤ M → IsW x → Prm x) (hM : M ≤ 1099511627776) :
    ∀ (N p : Nat), p ≤ N → Prm p → p ≤ M → ∀ (u : World) (vL : Value) (ss : List SRaw), BAt w0 u gM gD gS gL B AD nD cD ld ss.length (Ps ss) vL ss → Good ss → 2 ^ ss.length * p ≤ 2 ^ 200 →
      Calls Tryz.prog 16 #[.int .u64 p, .pointer (some ⟨gM, 0, none⟩), .pointer (some ⟨gD, 0, none⟩), .pointer (some ⟨gS, 0, none⟩), .pointer (some ⟨gL, 0, none⟩)] u (ShowOut w0 u gM gD gS gL B AD nD cD ld vL ss p) := by
  intro N
  induction N with
  | zero => intro p hp hpr; have := hpr.1; omega
  | succ N ih =>
    intro p hpN hpr hpM u vL ss hD hg hct
    have HD := Lib.hid hD
    have HG := Lib.hid hg
    have HPR := Lib.hid hpr
    by_cases h16 : p ≤ 65535
    · have g1 : decide ((p : Int) ≤ 65535) = true := by simp; omega
      have HS := Lib.hid (show ShownBy ss p from .inl ⟨by omega, hpr⟩)
      clear hD hg hct ih hpr
      go_enter Tryz.func16, Tryz.ntmps16
      go_wp2_with fail
      go_ret
      exact ShowOut.none HD.out HG.out HS.out (fun h => by omega)
    have g1 : decide ((p : Int) ≤ 65535) = false := by simp; omega
    have hp64 : p < 18446744073709551616 := by omega
    have kM := hD.bM.cell
    obtain ⟨bS, hbS⟩ := some_flag11 (p ∈ Ps ss)
    have hlook := hD.sh.look hp64 bS hbS
    have HBS := Lib.hid (show InFlagP bS p (Ps ss) from hbS)
    cases bS with
    | true =>
      have HS := Lib.hid (show ShownBy ss p from .inr (mem_Ps.1 (HBS.out.1 rfl)))
      clear hD hg hct ih hpr hbS
      go_enter Tryz.func16, Tryz.ntmps16
      go_wp2_with fail
      go_ret
      exact ShowOut.none HD.out HG.out HS.out (fun _ => HBS.out.1 rfl)
    | false =>
      have h3 : 3 ≤ p := by omega
      obtain ⟨pm, hpm⟩ : ∃ k, p - 1 = k := ⟨_, rfl⟩
      have hpmI : (p : Int) - 1 = (pm : Int) := by omega
      have kD := hD.bD.cell
      have CF := factors10 (hD.row hld hwd hnD hcD) hnD pm (by omega) (by omega)
      have CF := Lib.hid CF
      have HIH := Lib.hid ih
      have HCT := Lib.hid hct
      have HPM := Lib.hid hpm
      have HW := Lib.hid hW
      have HNOT := Lib.hid (show p ∉ Ps ss from fun h => by have h2 := HBS.out.2 h; cases h2)
      clear hD hg hct ih hpr hbS hpm hW HBS
      go_enter Tryz.func16, Tryz.ntmps16
      go_wp2_with fail
      refine (CF.out).mono ?_
      rintro e u1 ⟨X, q, d, ls, rest, er, rfl, hT, hRow, hOwn, b1⟩
      clear hlook kM kD CF
      rw [← HPM.out] at hT
      have HD1 := Lib.hid (HD.out.step b1)
      have HMv1 := Lib.hid (Mv.of_below (gL := gL) (B := B) vL b1)
      by_cases her : er = 0
      · subst her
        have hqd := hRow.2.2.2.2
        have hq40 : q < 40 := by rw [← hRow.1]; exact hT.few (by omega) (show p - 1 < 2 ^ 40 by omega)
        have CC := Lib.hid (compact11 hOwn (by omega) hqd hT.rise)
        have HT := Lib.hid hT
        have HB1 := Lib.hid b1
        clear hT hRow hOwn b1
        go_wp2_with fail
        refine (CC.out).mono ?_
        rintro e u2 ⟨m, qs, rfl, hqm, hmq, hqr, hmem, hcell, hsz2, hbel⟩
        have b2 : Below u.heap.size u1 u2 := hbel u.heap.size (Nat.le_refl _) HB1.out.size
        have b12 : Below u.heap.size u u2 := HB1.out.trans b2
        have HPa := Lib.hid (Parts.of_told (fun x hx => HW.out x (by omega)) (by omega) HT.out hqr hmem)
        have HD2 := Lib.hid (HD.out.step b12)
        have HMv2 := Lib.hid (Mv.of_below (gL := gL) (B := B) vL b12)
        have HF2 := Lib.hid (show FAt u2 gL B vL X m qs from fun h0 => by
          obtain ⟨g, e, h1, h2, h3⟩ := hcell h0
          have hf := HD.out.fresh (u' := u2) g ⟨h1, h2⟩
          exact ⟨g, e, h2, hf.2.2.1, hf.2.2.2.1, hf.2.2.2.2, h3⟩)
        have HQM := Lib.hid hqm
        have hm40 : m ≤ 40 := by omega
        clear hcell hqr hmem b2 b12 hbel hqm HT CC hsz2 HD1 HMv1 HB1
        go_wp2_with fail
        go_loopw [9, 34] (fun ev jv wr => ∃ (j : Nat) (vL' : Value) (new : List SRaw), ev = .int .i64 0 ∧ jv = .int .i64 j ∧ j ≤ m ∧ Hid (BAt w0 wr gM gD gS gL B AD nD cD ld (ss ++ new).length (Ps (ss ++ new)) vL' (ss ++ new)) ∧ Hid (Mv gL B u vL wr vL') ∧ Hid (FAt wr gL B vL' X m qs) ∧ Hid (Good (ss ++ new)) ∧ Hid (FewNew new.length qs j) ∧ Hid (ShownTo (ss ++ new) qs j)) (fun _ jv _ => m - (intOf jv).toNat)
        case atStart => exact ⟨0, vL, [], rfl, rfl, Nat.zero_le _, by rw [List.append_nil]; exact HD2, HMv2, HF2, by rw [List.append_nil]; exact HG, Lib.hid (.inl rfl), Lib.hid (fun i _ h => by omega)⟩
        case round =>
          clear HD2 HMv2 HF2
          obtain ⟨j, vL', new, rfl, rfl, hj, HD, HMv, HF, HGn, HFew, HSh⟩ := hrel
          by_cases hlt : j < m
          · have hjq : j < qs.length := by rw [HQM.out]; exact hlt
            obtain ⟨gF, hX, hgF, _, _, _, hcF⟩ := HF.out (by omega)
            subst hX
            have hc := hcF j hlt
            obtain ⟨q2, hq2⟩ : ∃ q, qs[j] = q := ⟨_, rfl⟩
            rw [nth_eq _ _ hjq, hq2] at hc
            have hmemq : q2 ∈ qs := by rw [← hq2]; exact List.getElem_mem hjq
            have hq2p := (HPa.out.prm q2 hmemq).1
            have hq2l := HPa.out.lt h3 q2 hmemq
            have C1 := HIH.out q2 (by omega) hq2p (by omega) wr vL' (ss ++ new) HD.out HGn.out (by
              rw [List.length_append]
              exact HFew.out.count hjq hq2 HPa.out.ge (HPa.out.prod h3) HCT.out)
            have C1 := Lib.hid C1
            have HQ2 := Lib.hid hq2
            have HQ2l := Lib.hid hq2l
            have hFn := HD.out.bS.cell
            unfold showFn at hFn
            clear hcF hmemq hq2p hq2 hgF hq2l
            go_wp2_with fail
            refine (C1.out).mono ?_
            rintro e u3 ⟨er2, vL2, new2, rfl, hD3, hMv3, hG3, hT3⟩
            rw [List.append_assoc] at hD3 hG3
            have HD3 := Lib.hid hD3
            have HG3 := Lib.hid hG3
            have HMv3 := Lib.hid (HMv.out.trans hMv3)
            have HF3 := Lib.hid (HF.out.mv hMv3)
            have HT3 := Lib.hid hT3
            clear hD3 hG3 hMv3 C1 hFn hc
            by_cases her2 : er2 = 0
            · subst her2
              have HFew3 := Lib.hid (show FewNew (new ++ new2).length qs (j + 1) by
                rw [List.length_append]
                exact HFew.out.next hjq HQ2.out HPa.out.ge (fun h0 => by
                  subst h0
                  have := HPa.out.first HPR.out h3 hjq
                  rw [HQ2.out] at this
                  omega) hT3.few)
              have HSh3 := Lib.hid (show ShownTo (ss ++ (new ++ new2)) qs (j + 1) by
                rw [← List.append_assoc]
                exact HSh.out.next hjq HQ2.out (hT3.shown rfl))
              clear hT3
              go_wp2_with fail
              go_roundw
              case rel => exact ⟨j + 1, vL2, new ++ new2, rfl, by go_num, by omega, HD3, HMv3, HF3, HG3, HFew3, HSh3⟩
              case measure => simp [intOf]; omega
            · have hends := hT3.ends.resolve_left her2
              have hn : ((er2 : Int) == 0) = false := by simp; omega
              have HTold := Lib.hid (show Told12 p ss (new ++ new2) er2 from by
                have hFew3 : FewNew (new ++ new2).length qs (j + 1) := by
                  rw [List.length_append]
                  exact HFew.out.next hjq HQ2.out HPa.out.ge (fun h0 => by
                    subst h0
                    have := HPa.out.first HPR.out h3 hjq
                    rw [HQ2.out] at this
                    omega) hT3.few
                refine ⟨.inr ⟨hends.1, by have := HQ2l.out; omega⟩, fun h => absurd h her2, ?_, fun h => absurd h her2⟩
                rcases hFew3 with h | ⟨_, h⟩
                · exact .inl h
                · rcases Nat.eq_zero_or_pos (new ++ new2).length with h0 | h0
                  · exact .inl h0
                  · refine .inr ⟨h0, ?_⟩
                    have h4 := prodN_take_le11 (fun x hx => by have := HPa.out.ge x hx; omega) (j + 1) (l := qs)
                    have h5 := HPa.out.prod h3
                    have h6 : 2 ^ ((new ++ new2).length + 15) ≤ 2 ^ ((new ++ new2).length + 16) := Nat.pow_le_pow_right (by omega) (by omega)
                    omega)
              clear hT3 hends
              go_wp2_with fail
              go_ret
              exact ⟨er2, vL2, new ++ new2, rfl, HD3.out, HMv3.out, HG3.out, HTold.out⟩
          · obtain rfl : j = m := by omega
            obtain ⟨V, hV⟩ : ∃ V, wr.drew = V := ⟨_, rfl⟩
            have bV : Below wr.heap.size wr V := by rw [← hV]; exact (Drawn.more 1).below11
            have HD4 := Lib.hid (HD.out.step bV)
            have HMv4 := Lib.hid (HMv.out.trans (Mv.of_below vL' bV))
            have hF4 := HF.out.mv (Mv.of_below (gL := gL) (B := B) vL' bV)
            have CS := Lib.hid (step11 (AF := X) (c := d) (m := j) (p := p) (qs := qs) (w := V) (fun h0 => by
              obtain ⟨g, e, h1, _, _, _, h2⟩ := hF4 (by rw [← HQM.out]; exact h0)
              exact ⟨g, 0, e, h1, fun i hi => by rw [Nat.zero_add]; exact h2 i (by rw [← HQM.out]; exact hi)⟩) HQM.out (by omega) HPR.out h3 hp64 HPa.out.prm (HPa.out.two HPR.out h3))
            have hssl : (ss ++ new).length ≤ 1000 := by
              rw [List.length_append]
              have h1 : ss.length ≤ 200 := by
                rcases Nat.lt_or_ge 200 ss.length with h | h
                · exfalso
                  have h2 : 2 ^ 201 ≤ 2 ^ ss.length := Nat.pow_le_pow_right (by omega) (by omega)
                  have h4 : 2 ^ ss.length ≤ 2 ^ ss.length * p := Nat.le_mul_of_pos_right _ (by omega)
                  have h5 := HCT.out
                  have h6 : (2 : Nat) ^ 201 ≤ 2 ^ 200 := by omega
                  exact absurd h6 (by decide)
                · exact h
              have h2 : new.length ≤ 64 := by
                rcases HFew.out with h | ⟨_, h⟩
                · omega
                · rcases Nat.lt_or_ge 64 new.length with h4 | h4
                  · exfalso
                    have h5 : 2 ^ 81 ≤ 2 ^ (new.length + 16) := Nat.pow_le_pow_right (by omega) (by omega)
                    have h6 := prodN_take_le11 (fun x hx => by have := HPa.out.ge x hx; omega) j (l := qs)
                    have h7 := HPa.out.prod h3
                    have h8 : (2 : Nat) ^ 81 ≤ 18446744073709551616 := by omega
                    exact absurd h8 (by decide)
                  · exact h4
              omega
            obtain ⟨xsL, ownL, _⟩ := HD4.out.own
            obtain ⟨nL, hnL⟩ : ∃ n, (ss ++ new).length = n := ⟨_, rfl⟩
            rw [hnL] at ownL
            have hLf : ∃ A c, vL' = .slice A nL c := by
              rcases ownL.2 with ⟨e, h0⟩ | ⟨g, cap, cur, e, _⟩
              · exact ⟨none, 0, by rw [e, h0]⟩
              · exact ⟨_, cap, e⟩
            obtain ⟨AL, cL, rfl⟩ := hLf
            have kL := HD4.out.bL.cell
            have HSSL := Lib.hid hssl
            have HNL := Lib.hid hnL
            clear ownL hnL bV HD HMv hF4 hssl
            go_wp2_with fail
            refine wp_region_any (by kernel_rfl) ?_
            change wpAny _ _ _ _ _ _ _ wr.drew
            rw [hV]
            clear hV
            refine wpAny_takeD (i := 1) (d := 46) (v := .int .u64 (p : Int)) rfl (by kernel_rfl) (by kernel_rfl) (by kernel_rfl) (by kernel_rfl) (fun _ _ _ h => h) (Or.inl ⟨by kernel_rfl, fun W => by go_simp⟩) ?_
            refine wpAny_takeD (i := 2) (d := 47) (v := .slice X j d) rfl (by kernel_rfl) (by kernel_rfl) (by kernel_rfl) (by kernel_rfl) (fun _ _ _ h => h) (Or.inl ⟨by kernel_rfl, fun W => by go_simp⟩) ?_
            refine anyP.toAny (s := 5) (B := fun u => u.cell? ⟨gL, 0, none⟩ = some (.slice AL nL cL)) ?_
            refine anyP_take (i := 0) (d := 45) (v := .slice AL nL cL) rfl rfl (by kernel_rfl) (by kernel_rfl) (by kernel_rfl) (by kernel_rfl) (by kernel_rfl) (by kernel_rfl) (fun _ _ _ h => h) ⟨by kernel_rfl, fun W hW => by go_simp⟩ ?_
            refine anyP_one (i := 3) (by kernel_rfl) rfl (fun _ => kL) (fun K hK => ?_)
            go_simp
            refine (CS.out).mono ?_
            rintro e u5 ⟨vP, vG, vQ, x, rfl, hP, hG, hQ, hx2, hxp, hAr, b5⟩
            obtain ⟨AP, cP, rfl, _⟩ := id hP
            obtain ⟨AG, cG, rfl, _⟩ := id hG
            obtain ⟨AQ, cQ, rfl, _⟩ := id hQ
            have HD5 := Lib.hid (HD4.out.step b5)
            have HMv5 := Lib.hid (HMv4.out.trans (Mv.of_below _ b5))
            have hfr : ∀ b, V.heap.size ≤ b ∧ b < u5.heap.size → In4 w0.heap.size u5 gL B (.slice AL nL cL) b := fun b hb => HD4.out.fresh b hb
            obtain ⟨v6, u6, hrun, hbx, hD6, hMv6⟩ := HD5.out.append HSSL.out (s := stepRaw p x qs) (hP.keep (fun _ _ => rfl) hfr) (hG.keep (fun _ _ => rfl) hfr) (hQ.keep (fun _ _ => rfl) hfr)
            have kL5 := HD5.out.bL.cell
            obtain ⟨nP, hnP⟩ : ∃ n, (wd p).length = n := ⟨_, rfl⟩
            obtain ⟨nG, hnG⟩ : ∃ n, (wd x).length = n := ⟨_, rfl⟩
            obtain ⟨nQ, hnQ⟩ : ∃ n, (qs.map wd).length = n := ⟨_, rfl⟩
            rw [hnP, hnG, hnQ] at hrun ⊢
            have kL6 : (u5.alloc (.cells #[.slice AP nP cP, .slice AG nG cG, .slice AQ nQ cQ] 37)).cell? ⟨gL, 0, none⟩ = some (.slice AL nL cL) := (HD5.out.bL.alloc _).cell
            have kB := hbx.cell
            have kF := hbx.frozen
            have HD6 := Lib.hid hD6
            have HMv6 := Lib.hid (HMv5.out.trans hMv6)
            obtain ⟨u7, hrun7, hsh7, hgr7⟩ := HD6.out.sh.put (m := p) (by have := HSSL.out; unfold maxLen; omega) hp64
            obtain ⟨hD7, hMv7⟩ := HD6.out.put hsh7 hgr7
            have HD7 := Lib.hid hD7
            have HMv7 := Lib.hid (HMv6.out.trans hMv7)
            have k7 := HD6.out.bM.cell
            have HX := Lib.hid (And.intro hx2 (And.intro hxp hAr))
            obtain ⟨xs6, own6, _⟩ := HD6.out.own
            have hL6 : ∃ A n c, v6 = .slice A n c := by
              rcases own6.2 with ⟨e, h0⟩ | ⟨g, cap, cur, e, _⟩
              · exact ⟨none, 0, 0, e⟩
              · exact ⟨_, _, cap, e⟩
            obtain ⟨A6, n6, c6, rfl⟩ := hL6
            clear hP hG hQ b5 hfr hbx hD6 hMv6 hsh7 hgr7 hD7 hMv7 hnP hnG hnQ hx2 hxp hAr own6 kL CS
            refine hK _ _ ?_
            clear hK K
            refine anyP_one (i := 4) (by kernel_rfl) rfl (fun _ => kL5) (fun K hK => ?_)
            go_simp
            refine hK _ _ ?_
            clear hK K
            refine anyP_one (i := 5) (by kernel_rfl) rfl (fun _ => kL6) (fun K hK => ?_)
            rw [if_pos (by kernel_rfl)]
            refine op_append11 _ _ _ rfl _ _ rfl rfl hrun ?_
            refine hK _ _ ?_
            clear hK K hrun kL5 kL6
            refine anyP_one (i := 6) (by kernel_rfl) rfl (fun h => by cases h) (fun K hK => ?_)
            go_simp
            refine hK _ _ ?_
            clear hK K kB kF
            refine anyP_done (by kernel_rfl) (by kernel_rfl) ?_
            go_step
            go_simp
            go_wp2_with fail
            go_ret
            have e1 : (ss ++ new).length + 1 = (ss ++ (new ++ [stepRaw p x qs])).length := by simp only [List.length_append, List.length_singleton]; omega
            have e2 : Ps (ss ++ new) ++ [p] = Ps (ss ++ (new ++ [stepRaw p x qs])) := by
              rw [← List.append_assoc, Ps_append (ss ++ new)]
              show _ = _ ++ [natOf (wd p)]
              rw [natOf_wd]
            have hD7 := HD7.out
            rw [e1, e2, List.append_assoc] at hD7
            obtain ⟨hx2, hxp, hAr⟩ := HX.out
            have hql : ∀ q ∈ qs, q < 18446744073709551616 := fun q hq => by have := HPa.out.lt h3 q hq; omega
            have hraw := raw_ok11 (x := x) hp64 hxp hql (by rw [HQM.out]; exact hm40)
            have hsh := HSh.out
            rw [← HQM.out] at hsh
            have hG7 := HGn.out.append hraw.1 hraw.2 (stepOk_raw HPa.out HPR.out h3 hx2 hxp hAr hsh.all hp64)
            rw [List.append_assoc] at hG7
            refine ⟨0, _, new ++ [stepRaw p x qs], rfl, hD7, HMv7.out, hG7, ⟨.inl rfl, fun _ => .inr ⟨stepRaw p x qs, by simp, natOf_wd p⟩, .inr ⟨by simp, ?_⟩, fun _ _ _ => ⟨new, _, rfl, natOf_wd p⟩⟩⟩
            rw [List.length_append]
            have hfw := HFew.out
            rw [← HQM.out] at hfw
            exact hfw.last (HPa.out.prod h3) (by omega)
      · obtain ⟨h11, h32⟩ := told_word11 hT h3 her
        have hn : ((er : Int) == 0) = false := by simp; omega
        have HE := Lib.hid (And.intro h11 h32)
        clear hT hRow hOwn b1 h11 h32
        go_wp2_with fail
        go_ret
        exact ⟨er, vL, [], rfl, by rw [List.append_nil]; exact HD1.out, HMv1.out, by rw [List.append_nil]; exact HG.out, ⟨.inr HE.out, fun h => absurd h her, .inl rfl, fun h => absurd h her⟩⟩
end Go.Proofs.YtjpfcdgaepdcdaaGreat
/- pratt.Build, walked. Conditions: as typed; what prime.Is takes, up to M, are primes. -/
namespace Go.Proofs.YtjpfcdgaepdcdaaGreat
open Go.RowKit
set_option maxRecDepth 20000
/-- What Build told of p: the steps and the error. -/
def Told11 (p : Nat) (ss : List SRaw) (er : Nat) : Prop :=
  (¬ Prm p ∧ ss = [] ∧ er = 7) ∨ (Prm p ∧ p < 65536 ∧ ss = [] ∧ er = 0) ∨ (Prm p ∧ 65536 ≤ p ∧ ss ≠ [] ∧ FewAll ss ∧ CheckW (OneW p) ss ∧ er = 0) ∨ (Prm p ∧ 4294967296 ≤ p ∧ ss = [] ∧ er = 11)
theorem BAt.rd {w0 u : World} {gM gD gS gL B : Nat} {AD : Option Addr} {nD cD : Nat} {ld : List Nat} {nm : Nat} {la : List Nat} {A : Option Addr} {n c : Nat} {ss : List SRaw} (h : BAt w0 u gM gD gS gL B AD nD cD ld nm la (.slice A n c) ss) : n = ss.length ∧ n ≤ c ∧ RdSteps u u.heap.size A ss := by
  obtain ⟨xs, own, hel⟩ := h.own
  rcases own.2 with ⟨e, h0⟩ | ⟨g, cap, cur, e, _, hh, hnc, _⟩
  · injection e with e1 e2 e3
    subst e1 e2 e3
    exact ⟨h0.symm, Nat.le_refl _, fun h => by omega⟩
  · injection e with e1 e2 e3
    subst e1 e2 e3
    refine ⟨rfl, hnc, fun _ => ⟨g, 0, rfl, (Array.getElem?_eq_some_iff.1 hh).1, fun j hj => ?_⟩⟩
    obtain ⟨vP, vG, vQ, h3, h4, h5, h6, h7, h8⟩ := hel j hj
    refine ⟨vP, vG, vQ, ?_, ?_, ?_, h6.rd fun b hb => hb.2.1, h7.rd fun b hb => hb.2.1, h8.rd fun b hb => hb.2.1⟩
    · rw [Nat.zero_add, own.cellAt _ (by omega)]; exact h3
    · rw [Nat.zero_add, own.cellAt _ (by omega)]; exact h4
    · rw [Nat.zero_add, own.cellAt _ (by omega)]; exact h5
theorem Told12.told {p : Nat} {new : List SRaw} {er : Nat} (h : Told12 p [] new er) (hg : Good new) (hp : Prm p) (hl : p ≤ 1099511627776) (he : er = 0) : Told11 p new 0 := by
  rcases Nat.lt_or_ge p 65536 with h16 | h16
  · refine .inr (.inl ⟨hp, h16, ?_, rfl⟩)
    rcases h.few with h1 | ⟨h1, h2⟩
    · exact List.eq_nil_of_length_eq_zero h1
    · have h3 : 2 ^ 16 ≤ 2 ^ (new.length + 15) := Nat.pow_le_pow_right (by omega) (by omega)
      omega
  · obtain ⟨r, s, h1, h2⟩ := h.last he h16 (by simp [Ps])
    refine .inr (.inr (.inl ⟨hp, h16, by rw [h1]; simp, ⟨?_, hg.few⟩, ⟨(oneW_ok (by omega)).1, hg.ok, ?_⟩, rfl⟩))
    · rcases h.few with h3 | ⟨_, h3⟩
      · omega
      · rcases Nat.lt_or_ge 30 new.length with h4 | h4
        · have h5 : 2 ^ 46 ≤ 2 ^ (new.length + 15) := Nat.pow_le_pow_right (by omega) (by omega)
          omega
        · exact h4
    · rw [(oneW_ok (n := p) (by omega)).2]
      exact .inr ⟨r.map toN, toN s, by rw [h1]; simp, h2, hg.cert⟩
set_option maxHeartbeats 16000000 in
theorem build_pf11 {M : Nat} (hM : M ≤ 1099511627776) (hW : ∀ x, x ≤ M → IsW x → Prm x) {w : World} {A : Option Addr} {n c : Nat} {l : List Nat} (P : RowIs w A n c l) (hn : n ≤ 1000) (p : Nat) (hp : p ≤ M) :
    Calls Tryz.prog 7 #[.int .u64 p, .slice A n c] w fun e w' => ∃ X d ss er, e = .returned (.tuple #[.slice X ss.length d, .int .i64 ((er : Nat) : Int)]) ∧ Told11 p ss er ∧ RdSteps w' w'.heap.size X ss ∧ ss.length ≤ d ∧ Below w.heap.size w w' := by
  obtain ⟨hl, hwd, _, hrd, hc⟩ := P
  obtain ⟨W0, hW0⟩ : ∃ W0, w.alloc (.cells #[.slice A n c] 24) = W0 := ⟨_, rfl⟩
  obtain ⟨gD, hgD⟩ : ∃ k, w.heap.size = k := ⟨_, rfl⟩
  have hB0 : Below w.heap.size w W0 := by rw [← hW0]; exact (Below.refl _ w).alloc (Nat.le_refl _) _
  have hbD : Boxed W0 gD 24 (.slice A n c) := by rw [← hW0, ← hgD]; exact Boxed.new _ _ _
  obtain ⟨bI, hbI⟩ := some_flag11 (IsW p)
  have CI := Lib.hid (is_word9 p (by omega) bI hbI W0)
  have HB0 := Lib.hid hB0
  have HBD := Lib.hid hbD
  have HR := Lib.hid hrd
  have HGD := Lib.hid hgD
  have hmm := @run_makeMap Tryz.prog
  cases bI with
  | false =>
    have HN := Lib.hid (show ¬ Prm p from fun h => by have h2 := hbI.2 (isW_prm h); cases h2)
    clear hbI hB0 hbD hrd hwd hl
    go_enter Tryz.func7, Tryz.ntmps7
    go_wp2_with fail
    refine (CI.out).mono ?_
    rintro e w1 ⟨rfl, b1⟩
    have HB1 := Lib.hid (below_step HB0.out b1)
    clear b1
    go_wp2_with fail
    go_ret2
    exact ⟨none, 0, [], 7, rfl, .inl ⟨HN.out, rfl, rfl⟩, fun h => by simp at h, Nat.le_refl _, HB1.out⟩
  | true =>
    have hpr : Prm p := hW p hp (hbI.1 rfl)
    have HPR := Lib.hid hpr
    have CS := Lib.hid fun (gM gS gL B : Nat) (u : World) (vL : Value) (h : BAt w u gM gD gS gL B A n c l 0 (Ps []) vL []) => show11 hl hwd hn hc hW hM p p (Nat.le_refl _) hpr hp u vL [] h Good.none (by
      show 2 ^ 0 * p ≤ 2 ^ 200
      rw [Nat.pow_zero, Nat.one_mul]
      exact Nat.le_trans (Nat.le_trans hp hM) (by decide))
    clear hbI hB0 hbD hrd hwd hl hW
    go_enter Tryz.func7, Tryz.ntmps7
    go_wp2_with fail
    refine (CI.out).mono ?_
    rintro e w1 ⟨rfl, b1⟩
    have HB1 := Lib.hid (below_step HB0.out b1)
    have HBD1 := Lib.hid (show Boxed w1 gD 24 (.slice A n c) from (b1.block _ HBD.out.lt).trans HBD.out)
    clear b1 CI hW0
    go_wp2_with fail
    obtain ⟨V, hV⟩ : ∃ V, (((w1.alloc (.cells #[.slice none 0 0] 23)).alloc (.map #[] 0)).alloc (.cells #[.map (some (w1.heap.size + 1))] 42)).alloc (.cells #[showFn (w1.heap.size + 1 + 1) gD (w1.heap.size + 1 + 1 + 1) w1.heap.size] 43) = V := ⟨_, rfl⟩
    have hBA : BAt w V (w1.heap.size + 1 + 1) gD (w1.heap.size + 1 + 1 + 1) w1.heap.size (w1.heap.size + 1) A n c l 0 (Ps []) (.slice none 0 0) [] := by
      have hsz := HB1.out.size
      have hbe : Below w.heap.size w V := by
        rw [← hV]
        exact (((HB1.out.alloc hsz _).alloc (by simp; omega) _).alloc (by simp; omega) _).alloc (by simp; omega) _
      have b0 := Boxed.new w1 23 (.slice none 0 0)
      have b1 := SetAt.made (w1.alloc (.cells #[.slice none 0 0] 23)) Tryz.prog 27 4
      have b2 := Boxed.new ((w1.alloc (.cells #[.slice none 0 0] 23)).alloc (.map #[] 0)) 42 (.map (some (w1.heap.size + 1)))
      have b3 := Boxed.new (((w1.alloc (.cells #[.slice none 0 0] 23)).alloc (.map #[] 0)).alloc (.cells #[.map (some (w1.heap.size + 1))] 42)) 43 (showFn (w1.heap.size + 1 + 1) gD (w1.heap.size + 1 + 1 + 1) w1.heap.size)
      simp only [World.size_alloc] at b1 b2 b3
      refine ⟨by rw [← hV]; exact b2.alloc _, by rw [← hV]; exact (((HBD1.out.alloc _).alloc _).alloc _).alloc _, by rw [← hV]; exact b3, by rw [← hV]; exact ((b0.alloc _).alloc _).alloc _, ?_, ⟨[], World.ownsRow_nil _ _ _ _, fun j hj => by simp at hj⟩, HR.out.below hbe, ⟨hsz, by omega⟩, hbe⟩
      rw [← hV]
      exact (((b1.kept (World.grownBy_alloc _ _ none) (by simp)).kept (World.grownBy_alloc _ _ none) (by simp)).same fun kl => by simp [Ps])
    have C1 := Lib.hid (CS.out _ _ _ _ V _ hBA)
    have HHB1 := HB1
    clear hBA CS HB1 HBD1
    unfold showFn at hV
    rw [hV]
    clear hV
    obtain ⟨gL, hgL⟩ : ∃ k, w1.heap.size = k := ⟨_, rfl⟩
    rw [hgL] at C1 ⊢
    refine (C1.out).mono ?_
    rintro e u2 ⟨er, vL', new, rfl, hD, _, hG, hT⟩
    rw [List.nil_append] at hD hG
    have hLf : ∃ A n c, vL' = .slice A n c := by
      obtain ⟨xs, own, _⟩ := hD.own
      rcases own.2 with ⟨e, h0⟩ | ⟨g, cap, cur, e, _⟩
      · exact ⟨none, 0, 0, e⟩
      · exact ⟨_, _, cap, e⟩
    obtain ⟨AL, nL, cL, rfl⟩ := hLf
    have HD := Lib.hid hD
    have HG := Lib.hid hG
    have kL := hD.bL.cell
    by_cases her : er = 0
    · subst her
      have HTold := Lib.hid (hT.told hG HPR.out (Nat.le_trans hp hM) rfl)
      clear hD hG hT C1 hgL HHB1
      go_wp2_with fail
      go_ret2
      obtain ⟨h1, h2, h3⟩ := HD.out.rd
      subst h1
      exact ⟨AL, cL, new, 0, rfl, HTold.out, h3, h2, HD.out.be⟩
    · have hends := hT.ends.resolve_left her
      have hn : ((er : Int) == 0) = false := by simp; omega
      have HTold := Lib.hid (show Told11 p [] er from .inr (.inr (.inr ⟨HPR.out, hends.2, rfl, hends.1⟩)))
      clear hD hG hT C1 hgL HHB1 hends
      go_wp2_with fail
      go_ret2
      exact ⟨none, 0, [], er, rfl, HTold.out, fun h => by simp at h, Nat.le_refl _, HD.out.be⟩
end Go.Proofs.YtjpfcdgaepdcdaaGreat
/- pratt's other contract, as laws use it, and what a round of the laws' loops over l[:i+1] says. Conditions: as typed (words below 2^32, up to a thousand draws). -/
namespace Go.Proofs.YtjpfcdgaepdcdaaGreat
open Go.RowKit
set_option maxRecDepth 20000
theorem RdSteps.take11 {w : World} {B : Nat} {A : Option Addr} {ss : List SRaw} (h : RdSteps w B A ss) (k : Nat) : RdSteps w B A (ss.take k) := fun h0 => by
  have hl : (ss.take k).length ≤ ss.length := by rw [List.length_take]; omega
  obtain ⟨b, off, e, hb, hall⟩ := h (by omega)
  refine ⟨b, off, e, hb, fun j hj => ?_⟩
  obtain ⟨vP, vG, vQ, h1⟩ := hall j (by omega)
  refine ⟨vP, vG, vQ, ?_⟩
  rw [List.getElem_take]
  exact h1
theorem FewAll.take11 {ss : List SRaw} (h : FewAll ss) (k : Nat) : FewAll (ss.take k) := ⟨by rw [List.length_take]; have := h.1; omega, fun s hs => h.2 s (List.mem_of_mem_take hs)⟩
theorem take_len11 {ss : List SRaw} {i : Nat} (h : i < ss.length) : (ss.take (i + 1)).length = i + 1 := by rw [List.length_take]; omega
theorem take_last11 {ss : List SRaw} {i : Nat} (h : i < ss.length) : (ss.take (i + 1)).getLast? = some ss[i] := by
  rw [List.take_succ_eq_append_getElem h, List.getLast?_append]; rfl
theorem CheckW.prm {lp : List Nat} {ss : List SRaw} (h : CheckW lp ss) : Prm (natOf lp) := checkN_prm h.2.2
/-- A word that is shown is a prime. -/
theorem CheckW.word {n : Nat} (hn : n < 18446744073709551616) {ss : List SRaw} (h : CheckW (OneW n) ss) : Prm n := by
  have := h.prm; rwa [(oneW_ok hn).2] at this
/-- A low number that is shown is one word, and a prime. -/
theorem CheckW.low {i : Nat} {ss : List SRaw} (hi : i < ss.length) (h : CheckW ss[i].P (ss.take (i + 1))) (hl : ∀ s ∈ ss.take (i + 1), LowOne s) : ss[i].P.length = 1 ∧ nth ss[i].P 0 < 2147483648 ∧ Prm (nth ss[i].P 0) := by
  have hm : ss[i] ∈ ss.take (i + 1) := by rw [List.take_succ_eq_append_getElem hi]; exact List.mem_append_right _ List.mem_cons_self
  have h1 := (hl _ hm).1
  have h2 := h.prm
  rw [(small_word11 h1).2] at h2
  have h3 : ss[i].P.length = 1 := by
    unfold smallB11 at h1
    simp only [decide_eq_true_eq] at h1
    rcases h1 with h4 | h4
    · rw [List.eq_nil_of_length_eq_zero h4] at h2
      exact absurd h2.1 (by show ¬ 2 ≤ 0; omega)
    · exact h4.1
  exact ⟨h3, small_lt11 h1, h2⟩
/-- The same, in the form that walks ask. -/
def ToldE (p : Nat) (ss : List SRaw) (E : Int) : Prop := ∃ er : Nat, E = (er : Int) ∧ Told11 p ss er
theorem ToldE.low {p : Nat} {ss : List SRaw} {L : Nat} {E : Int} (h : ToldE p ss E) (hl : ss.length = L) (hp : Prm p) (h16 : p < 65536) : ss = [] ∧ L = 0 ∧ E = 0 := by
  obtain ⟨er, rfl, h⟩ := h
  rcases h with ⟨h, _⟩ | ⟨_, _, rfl, rfl⟩ | ⟨_, h, _⟩ | ⟨_, h, _⟩
  · exact absurd hp h
  · exact ⟨rfl, hl.symm, rfl⟩
  · omega
  · omega
theorem ToldE.high {p : Nat} {ss : List SRaw} {L : Nat} {E : Int} (h : ToldE p ss E) (hl : ss.length = L) (hp : Prm p) (h16 : 65536 ≤ p) (h32 : p < 4294967296) : E = 0 ∧ 0 < L ∧ FewAll ss ∧ CheckW (OneW p) ss := by
  obtain ⟨er, rfl, h⟩ := h
  rcases h with ⟨h, _⟩ | ⟨_, h, _⟩ | ⟨_, _, h1, h2, h3, rfl⟩ | ⟨_, h, _⟩
  · exact absurd hp h
  · omega
  · exact ⟨rfl, by rw [← hl]; exact List.length_pos_iff.2 h1, h2, h3⟩
  · omega
theorem ToldE.no {p : Nat} {ss : List SRaw} {L : Nat} {E : Int} (h : ToldE p ss E) (hl : ss.length = L) (hp : ¬ Prm p) : ss = [] ∧ L = 0 ∧ E = 7 := by
  obtain ⟨er, rfl, h⟩ := h
  rcases h with ⟨_, rfl, rfl⟩ | ⟨h, _⟩ | ⟨h, _⟩ | ⟨h, _⟩
  · exact ⟨rfl, hl.symm, rfl⟩
  · exact absurd h hp
  · exact absurd h hp
  · exact absurd h hp
theorem check11 {w : World} {v : Value} {lp : List Nat} {A : Option Addr} {n d : Nat} {ss : List SRaw} (hv : RdNat w w.heap.size v lp) (hp : OkNat lp ∨ ∃ s, ss.getLast? = some s ∧ s.P = lp) (h : RdSteps w w.heap.size A ss) (hn : ss.length = n) (hc : n ≤ d) (hf : FewAll ss) (b : Bool) (hb : b = true ↔ CheckW lp ss) (hL : LaidT w) :
    Calls Tryz.prog 9 #[v, .slice A n d] w fun e w' => e = .returned (.bool b) ∧ Below w.heap.size w w' := by
  subst hn; exact praCheck_any hv hp h hc hf b hb hL
end Go.Proofs.YtjpfcdgaepdcdaaGreat
