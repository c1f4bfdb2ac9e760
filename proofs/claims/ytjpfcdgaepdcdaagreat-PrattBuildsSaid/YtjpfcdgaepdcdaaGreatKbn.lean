/- Several texts in one; each begins with a remark that says what it shows and on which conditions. -/
import Derived.Test.YtjpfcdgaepdcdaaGreatKar
import Derived.Test.YtjpfcdgaepdcdaaGreatKbl
import Derived.Test.YtjpfcdgaepdcdaaGreatKbm
import Derived.Test.YtjpfcdgaepdcdaaGreatKbk
import Derived.Test.YtjpfcdgaepdcdaaGreatKax
import Derived.Deep.RegionWith
import Derived.Deep.QuietTactic
/- gcd's steps of numbers of many words. Conditions: as typed (lengths that fit a machine). -/
namespace Go.Proofs.YtjpfcdgaepdcdaaGreat
open Go.RowKit
set_option maxRecDepth 20000
theorem tell2 (A : Option Addr) (n c : Nat) (w : World) : Calls Tryz.prog 113 #[.slice A n c] w fun e w' => e = .returned (.tuple #[]) ∧ w = w' := by
  go_enter Tryz.func113, Tryz.ntmps113
  go_wp2_with fail
  go_end0
  exact ⟨rfl, rfl⟩
/-- A number is answered, be it one that was handed in. -/
def OutIn (G : Nat) (w : World) (e : Ending) (w' : World) : Prop := ∃ X n c, e = .returned (.slice X n c) ∧ NatIn w' X n c G ∧ n ≤ 10000 ∧ Below w.heap.size w w'
theorem natIs_len {w : World} {X : Option Addr} {q d V K : Nat} (h : NatIs w X q d V) (hV : nbits V ≤ 64 * K) : q ≤ K := by
  have h1 := h.1
  rw [length_wd] at h1
  omega
set_option maxHeartbeats 1000000 in
theorem steps2_plain (A A2 : Option Addr) (n m c c2 M N : Nat) (w : World) (h : NatIn w A n c M) (k : NatIn w A2 m c2 N) (hs : n ≤ 10000) (hs2 : m ≤ 10000) : Calls Tryz.prog 112 #[.slice A n c, .slice A2 m c2, .func (.func 64) #[] #[], .func (.func 113) #[] #[]] w (OutIn (Nat.gcd M N) w) := by
  go_enter Tryz.func112, Tryz.ntmps112
  go_wp2_with fail
  go_step3
  go_wp2_with fail
  go_step3
  go_wp2_with fail
  go_loopg [0, 1] N (fun k av bv wr => ∃ (A A2 : Option Addr) (n m c c2 a b : Nat), av = .slice A n c ∧ bv = .slice A2 m c2 ∧ NatIn wr A n c a ∧ NatIn wr A2 m c2 b ∧ n ≤ 10000 ∧ m ≤ 10000 ∧ b ≤ k ∧ Nat.gcd a b = Nat.gcd M N ∧ Below w.heap.size w wr)
  case atStart => exact ⟨A, A2, n, m, c, c2, M, N, rfl, rfl, h, k, hs, hs2, Nat.le_refl _, rfl, Below.refl _ _⟩
  case round =>
    clear h k hs hs2
    obtain ⟨A, A2, n, m, c, c2, a, b, rfl, rfl, h, k, hs, hs2, hbk, hg, hB⟩ := hrel
    by_cases h0 : b = 0
    · have D := Lib.hid (bDiv_zero h k h0 hs hs2)
      have HG := Lib.hid (show a = Nat.gcd M N by rw [← hg, h0, Nat.gcd_zero_right])
      have H := Lib.hid h
      clear hg h0 h k
      go_wp2_with fail
      refine (D.out).mono ?_
      rintro e w1 ⟨X, d, Y, f, rfl, b1⟩
      have B1 := hB.trans (b1.mono hB.size)
      go_wp2_with fail
      rw [Exit.noGoto_ret]
      go_ret
      exact ⟨A, n, c, rfl, by rw [← HG.out]; exact H.out.step b1, hs, B1⟩
    · have D := Lib.hid (bDiv_ok h k h0 hs hs2)
      have hkb := k.bits
      have hrb := Nat.mod_lt a (Nat.pos_of_ne_zero h0)
      have hrn := nbits_mono (Nat.le_of_lt hrb)
      have HN := Lib.hid (show Nat.gcd b (a % b) = Nat.gcd M N by rw [gcd_next, hg])
      have H := Lib.hid h
      have K := Lib.hid k
      clear hg h k
      go_wp2_with fail
      refine (D.out).mono ?_
      rintro e w1 ⟨X, q, d, Y, r, f, rfl, S, T, b1⟩
      have B1 := hB.trans (b1.mono hB.size)
      have hrl := natIs_len T (show nbits (a % b) ≤ 64 * m by omega)
      have HT := Lib.hid T
      clear S T
      go_wp2_with fail
      refine (tell2 X q d w1).mono ?_
      rintro e w2 ⟨rfl, rfl⟩
      go_wp2_with fail
      go_roundg (a % b)
      case rel => exact ⟨A2, Y, m, r, c2, f, b, a % b, rfl, rfl, K.out.step b1, HT.out.in_, hs2, by omega, Nat.le_refl _, HN.out, B1⟩
      case measure => omega
/-- A slice of words has none of its words in another kind's own variable. -/
theorem Rd.box {u : World} {B G t : Nat} {A : Option Addr} {l : List Nat} {v : Value} (h : Rd .u64 u B A l) (hb : Boxed u G t v) (hv : ∀ k x, v ≠ .int k x) (y : Value) : Rd .u64 (u.setCell ⟨G, 0, none⟩ y) B A l := fun hl => by
  obtain ⟨b, off, rfl, hlt, hc⟩ := h hl
  refine ⟨b, off, rfl, hlt, fun j hj => ?_⟩
  have hne : b ≠ G := by
    rintro rfl
    have h1 := hc j hj
    have h2 : u.heap[b]? = some (.cells #[v] t (0, 0)) := hb
    simp only [World.cell?, h2] at h1
    rcases Nat.eq_zero_or_pos (off + j) with h0 | h0
    · rw [h0] at h1; simp at h1; exact hv _ _ h1
    · obtain ⟨o, ho⟩ : ∃ o, off + j = o := ⟨_, rfl⟩
      rw [ho] at h1 h0
      rw [if_neg (by simp), List.getElem?_toArray, List.getElem?_eq_none (by simp; omega)] at h1
      cases h1
  rw [← hc j hj]
  exact World.cell?_setCell_other _ _ _ _ (fun e => hne (by injection e with e1; exact e1.symm))
section
variable {u : World} {G t : Nat} {A : Option Addr} {n c V : Nat} {v : Value}
theorem NatIn.box (h : NatIn u A n c V) (hb : Boxed u G t v) (hv : ∀ k x, v ≠ .int k x) (y : Value) : NatIn (u.setCell ⟨G, 0, none⟩ y) A n c V := by
  obtain ⟨l, h1, h2, h3, h4, h5, h6⟩ := h
  refine ⟨l, h1, h2, h3, h4, ?_, h6⟩
  have := h5.box hb hv y
  simpa [World.setCell] using this
theorem NatIs.box (h : NatIs u A n c V) (hb : Boxed u G t v) (hv : ∀ k x, v ≠ .int k x) (y : Value) : NatIs (u.setCell ⟨G, 0, none⟩ y) A n c V := by
  obtain ⟨h1, h2, h3, h4⟩ := h
  refine ⟨h1, h2, ?_, h4⟩
  have := h3.box hb hv y
  simpa [World.setCell] using this
end
/-- The three variables that least's steps are told to. -/
structure Box2 (u : World) (L N S : Nat) (vl vn : Value) (less : Bool) : Prop where
  last : Boxed u L 33 vl
  next : Boxed u N 33 vn
  less : Boxed u S 4 (.bool less)
theorem Box2.kept {u u' : World} {L N S : Nat} {vl vn : Value} {less : Bool} (h : Box2 u L N S vl vn less) (hb : Below u.heap.size u u') : Box2 u' L N S vl vn less :=
  have hg : u.grownBy u' none := ⟨hb.os, hb.tape, hb.output, hb.size, fun i hi _ => hb.block i hi⟩
  ⟨h.last.kept hg (by simp), h.next.kept hg (by simp), h.less.kept hg (by simp)⟩
/-- They hold these numbers. -/
def Told (u : World) (L N S last next : Nat) (less : Bool) : Prop := ∃ X n d Y r f, Box2 u L N S (.slice X n d) (.slice Y r f) less ∧ NatIs u X n d last ∧ NatIs u Y r f next
theorem Told.kept {u u' : World} {L N S last next : Nat} {less : Bool} (h : Told u L N S last next less) (hb : Below u.heap.size u u') : Told u' L N S last next less := by
  obtain ⟨X, n, d, Y, r, f, h1, h2, h3⟩ := h
  exact ⟨X, n, d, Y, r, f, h1.kept hb, h2.step hb, h3.step hb⟩
end Go.Proofs.YtjpfcdgaepdcdaaGreat
/- gcd's least, and Gcd, Ext, Inv. Conditions: as typed (lengths that fit a machine). -/
namespace Go.Proofs.YtjpfcdgaepdcdaaGreat
open Go.RowKit
set_option maxRecDepth 20000
section
variable {w : World} {A A2 : Option Addr} {n m c c2 M N : Nat}
theorem small_ok (h : NatIn w A n c M) (hM : M < 18446744073709551616) : Calls Tryz.prog 39 #[.slice A n c] w fun e w' => e = .returned (.tuple #[.int .u64 (M : Nat), .bool true]) ∧ Below w.heap.size w w' := by
  obtain ⟨l, rfl, rfl, h3, h4, h5, h6⟩ := h
  have h := natSmall_any A c l w h5 h3 (by omega) h6
  rwa [show smallV (natOf l) = ((natOf l : Nat) : Int) by simp [smallV, hM], show smallB (natOf l) = true by simp [smallB, hM]] at h
theorem small_no (h : NatIn w A n c M) (hM : ¬ M < 18446744073709551616) : Calls Tryz.prog 39 #[.slice A n c] w fun e w' => e = .returned (.tuple #[.int .u64 0, .bool false]) ∧ Below w.heap.size w w' := by
  obtain ⟨l, rfl, rfl, h3, h4, h5, h6⟩ := h
  have h := natSmall_any A c l w h5 h3 (by omega) h6
  rwa [show smallV (natOf l) = 0 by simp [smallV, hM], show smallB (natOf l) = false by simp [smallB, hM]] at h
theorem words_yes (h : NatIn w A n c M) (k : NatIn w A2 m c2 N) (hM : M < 18446744073709551616) (hN : N < 18446744073709551616) : Calls Tryz.prog 108 #[.slice A n c, .slice A2 m c2] w fun e w' => e = .returned (.tuple #[.int .u64 (M : Nat), .int .u64 (N : Nat), .bool true]) ∧ Below w.heap.size w w' := by
  have D := Lib.hid (small_ok h hM)
  go_enter Tryz.func108, Tryz.ntmps108
  go_wp2_with fail
  refine (D.out).mono ?_
  rintro e w1 ⟨rfl, b1⟩
  go_wp2_with fail
  refine (small_ok (k.step b1) hN).mono ?_
  rintro e w2 ⟨rfl, b2⟩
  go_wp2_with fail
  go_ret3
  exact ⟨rfl, below_step b1 b2⟩
theorem words_no (h : NatIn w A n c M) (k : NatIn w A2 m c2 N) (hMN : ¬ (M < 18446744073709551616 ∧ N < 18446744073709551616)) : Calls Tryz.prog 108 #[.slice A n c, .slice A2 m c2] w fun e w' => ∃ x y : Value, e = .returned (.tuple #[x, y, .bool false]) ∧ Below w.heap.size w w' := by
  by_cases hM : M < 18446744073709551616
  · have hN : ¬ N < 18446744073709551616 := fun hN => hMN ⟨hM, hN⟩
    have D := Lib.hid (small_ok h hM)
    go_enter Tryz.func108, Tryz.ntmps108
    go_wp2_with fail
    refine (D.out).mono ?_
    rintro e w1 ⟨rfl, b1⟩
    go_wp2_with fail
    refine (small_no (k.step b1) hN).mono ?_
    rintro e w2 ⟨rfl, b2⟩
    go_wp2_with fail
    go_ret3
    exact ⟨_, _, rfl, below_step b1 b2⟩
  · have D := Lib.hid (small_no h hM)
    have E : ∃ v b, ∀ u, Below w.heap.size w u → Calls Tryz.prog 39 #[.slice A2 m c2] u fun e w' => e = .returned (.tuple #[.int .u64 v, .bool b]) ∧ Below u.heap.size u w' := by
      by_cases hN : N < 18446744073709551616
      · exact ⟨_, _, fun u hu => small_ok (k.step hu) hN⟩
      · exact ⟨_, _, fun u hu => small_no (k.step hu) hN⟩
    obtain ⟨v, b, E⟩ := E
    have E := Lib.hid E
    go_enter Tryz.func108, Tryz.ntmps108
    go_wp2_with fail
    refine (D.out).mono ?_
    rintro e w1 ⟨rfl, b1⟩
    go_wp2_with fail
    refine (E.out _ b1).mono ?_
    rintro e w2 ⟨rfl, b2⟩
    go_wp2_with fail
    go_ret3
    exact ⟨_, _, rfl, below_step b1 b2⟩
end
end Go.Proofs.YtjpfcdgaepdcdaaGreat
/- gcd.least of many words; Gcd, Ext, Inv. Conditions: as typed (lengths that fit a machine). -/
namespace Go.Proofs.YtjpfcdgaepdcdaaGreat
open Go.RowKit
set_option maxRecDepth 20000
section
variable {w : World} {A A2 : Option Addr} {n m c c2 M N : Nat}
end
end Go.Proofs.YtjpfcdgaepdcdaaGreat
/- gcd's contracts, as laws use them. Conditions: as typed (lengths that fit a machine). -/
namespace Go.Proofs.YtjpfcdgaepdcdaaGreat
open Go.RowKit
set_option maxRecDepth 20000
theorem Turned.lower {w : World} {base base' n : Nat} {v : Value} (h : Turned w base v n) (hb : base' ≤ base) : Turned w base' v n := by
  obtain ⟨l, h1, h2, h3⟩ := h
  exact ⟨l, h1, h2, own_base h3 hb⟩
section
variable {w : World} {A A2 : Option Addr} {n m c c2 M N : Nat}
set_option maxHeartbeats 1000000 in
theorem bGcd (h : NatIn w A n c M) (k : NatIn w A2 m c2 N) (hs : n ≤ 10000) (hs2 : m ≤ 10000) : Calls Tryz.prog 84 #[.slice A n c, .slice A2 m c2] w (OutN (Nat.gcd M N) w) := by
  by_cases hMN : M < 18446744073709551616 ∧ N < 18446744073709551616
  · have D := Lib.hid (words_yes h k hMN.1 hMN.2)
    obtain ⟨hM, hN⟩ := hMN
    have hg : Nat.gcd M N < 18446744073709551616 := by
      rcases Nat.eq_zero_or_pos M with h0 | h0
      · rw [h0, Nat.gcd_zero_left]; exact hN
      · exact Nat.lt_of_le_of_lt (Nat.gcd_le_left N h0) hM
    have HG := Lib.hid hg
    clear h k hg
    go_enter Tryz.func84, Tryz.ntmps84
    go_wp2_with fail
    refine (D.out).mono ?_
    rintro e w1 ⟨rfl, b1⟩
    go_wp2_with fail
    refine (steps1_plain M N w1 hM hN).mono ?_
    rintro e w2 ⟨rfl, b2⟩
    have B2 := below_step b1 b2
    go_wp2_with fail
    refine (bOf w2 _ HG.out).mono ?_
    rintro e w3 ⟨X, q, d, rfl, S, T, b3⟩
    have B3 := below_step B2 b3
    go_wp2_with fail
    go_ret
    exact ⟨X, q, d, rfl, S, T.lower B2.size, B3⟩
  · have D := Lib.hid (words_no h k hMN)
    have H := Lib.hid h
    have K := Lib.hid k
    clear h k hMN
    go_enter Tryz.func84, Tryz.ntmps84
    go_wp2_with fail
    refine (D.out).mono ?_
    rintro e w1 ⟨x, y, rfl, b1⟩
    go_wp2_with fail
    refine (steps2_plain A A2 n m c c2 M N w1 (H.out.step b1) (K.out.step b1) hs hs2).mono ?_
    rintro e w2 ⟨Z, z, g, rfl, hZ, _, b2⟩
    have B2 := below_step b1 b2
    go_wp2_with fail
    refine (bTrim hZ).mono ?_
    rintro e w3 ⟨X, q, d, rfl, S, T, b3⟩
    have B3 := below_step B2 b3
    go_wp2_with fail
    go_ret
    exact ⟨X, q, d, rfl, S, T.lower B2.size, B3⟩
end
end Go.Proofs.YtjpfcdgaepdcdaaGreat
/- rho's small functions: modulo, times, common, and a row in memory: behind, step, distance. Conditions: as typed. -/
namespace Go.Proofs.YtjpfcdgaepdcdaaGreat
open Go.RowKit
set_option maxRecDepth 20000
set_option maxHeartbeats 2000000 in
theorem mod10 (h l n v : Nat) (w : World) (hh : h < n) (hn : n < 18446744073709551616) (hl : l < 18446744073709551616) (hv : (h * 18446744073709551616 + l) % n = v) :
    Calls Tryz.prog 83 #[.int .u64 h, .int .u64 l, .int .u64 n] w fun e w' => e = .returned (.int .u64 v) ∧ Drawn w w' := by
  have HD := Lib.hid (div64_any h l n w hh hn hl)
  rw [hv] at HD
  obtain ⟨q, hq⟩ : ∃ q, (h * 18446744073709551616 + l) / n = q := ⟨_, rfl⟩
  rw [hq] at HD
  clear hv hq
  go_enter Tryz.func83, Tryz.ntmps83
  go_wp2_with fail
  refine (HD.out).mono ?_
  rintro e w1 ⟨rfl, hd⟩
  have HDr := Lib.hid hd
  clear hd
  go_wp2_with fail
  go_ret
  exact ⟨rfl, HDr.out⟩
set_option maxHeartbeats 2000000 in
theorem times10 (a b n v : Nat) (w : World) (ha : a < n) (hn : n < 18446744073709551616) (hb : b < 18446744073709551616) (hv : a * b % n = v) :
    Calls Tryz.prog 56 #[.int .u64 a, .int .u64 b, .int .u64 n] w fun e w' => e = .returned (.int .u64 v) ∧ Drawn w w' := by
  have HM := Lib.hid (Tryz.bits_Mul64 a b (by omega) hb w)
  obtain ⟨s, hs⟩ : ∃ s, a * b = s := ⟨_, rfl⟩
  rw [hs] at HM hv
  have hsl : s < n * 18446744073709551616 := by rw [← hs]; exact Nat.mul_lt_mul'' ha hb
  obtain ⟨hi, hhi⟩ : ∃ hi, s / 18446744073709551616 = hi := ⟨_, rfl⟩
  obtain ⟨lo, hlo⟩ : ∃ lo, s % 18446744073709551616 = lo := ⟨_, rfl⟩
  rw [hhi, hlo] at HM
  have HD := Lib.hid (mod10 hi lo n v w (by omega) hn (by omega) (by rw [← hv]; congr 1; omega))
  clear hs hsl hhi hlo hv
  go_enter Tryz.func56, Tryz.ntmps56
  go_wp2_with fail
  refine (HM.out).mono ?_
  rintro e w1 ⟨rfl, rfl⟩
  go_wp2_with fail
  refine (HD.out).mono ?_
  rintro e w2 ⟨rfl, hd⟩
  have HDr := Lib.hid hd
  clear hd
  go_wp2_with fail
  go_ret
  exact ⟨rfl, HDr.out⟩
/-! A row in memory -/
structure RowIn (g : Nat) (w : World) (n c x y : Nat) : Prop where
  c0 : w.cell? ⟨g, 0, none⟩ = some (.int .u64 (n : Int))
  c1 : w.cell? ⟨g, 1, none⟩ = some (.int .u64 (c : Int))
  c2 : w.cell? ⟨g, 2, none⟩ = some (.int .u64 (x : Int))
  c3 : w.cell? ⟨g, 3, none⟩ = some (.int .u64 (y : Int))
  f2 : w.frozen? ⟨g, 2, none⟩ = false
  f3 : w.frozen? ⟨g, 3, none⟩ = false
/-- Nothing but one block has turned. -/
structure Only (g : Nat) (w w' : World) : Prop where
  os : w'.os = w.os
  tape : w'.tape = w.tape
  output : w'.output = w.output
  size : w'.heap.size = w.heap.size
  block : ∀ k, k ≠ g → w'.heap[k]? = w.heap[k]?
theorem Only.refl (g : Nat) (w : World) : Only g w w := ⟨rfl, rfl, rfl, rfl, fun _ _ => rfl⟩
theorem Only.trans {g : Nat} {a b c : World} (h : Only g a b) (k : Only g b c) : Only g a c :=
  ⟨k.os.trans h.os, k.tape.trans h.tape, k.output.trans h.output, k.size.trans h.size, fun i hi => (k.block i hi).trans (h.block i hi)⟩
theorem Only.set (g : Nat) (w : World) (i : Nat) (v : Value) : Only g w (w.setCell ⟨g, i, none⟩ v) :=
  ⟨rfl, rfl, rfl, by simp [World.setCell], fun k hk => Below.heap_setCell _ _ _ _ hk⟩
theorem Only.drawn (g : Nat) {w w' : World} (h : Drawn w w') : Only g w w' := by
  obtain ⟨k, rfl⟩ := h
  exact ⟨rfl, rfl, rfl, rfl, fun _ _ => rfl⟩
theorem Only.below {g B : Nat} {w w' : World} (h : Only g w w') (hg : B ≤ g) : Below B w w' :=
  ⟨h.os, h.tape, h.output, Nat.le_of_eq h.size.symm, fun k hk => h.block k (by omega)⟩
theorem RowIn.drawn {g n c x y : Nat} {w w' : World} (h : RowIn g w n c x y) (hd : Drawn w w') : RowIn g w' n c x y := by
  obtain ⟨k, rfl⟩ := hd
  exact ⟨h.c0, h.c1, h.c2, h.c3, h.f2, h.f3⟩
theorem RowIn.only {g g2 n c x y : Nat} {w w' : World} (h : RowIn g w n c x y) (o : Only g2 w w') (hne : g ≠ g2) : RowIn g w' n c x y := by
  have hb := o.block g hne
  have e : ∀ i, w'.cell? ⟨g, i, none⟩ = w.cell? ⟨g, i, none⟩ := fun i => World.cell?_of_block (w := w) (a := ⟨g, i, none⟩) hb
  have f : ∀ i, w'.frozen? ⟨g, i, none⟩ = w.frozen? ⟨g, i, none⟩ := fun i => World.frozen?_of_block (w := w) (a := ⟨g, i, none⟩) hb
  exact ⟨(e 0).trans h.c0, (e 1).trans h.c1, (e 2).trans h.c2, (e 3).trans h.c3, (f 2).trans h.f2, (f 3).trans h.f3⟩
theorem RowIn.below {g B n c x y : Nat} {w w' : World} (h : RowIn g w n c x y) (o : Below B w w') (hg : g < B) : RowIn g w' n c x y := by
  have hb := o.block g hg
  have e : ∀ i, w'.cell? ⟨g, i, none⟩ = w.cell? ⟨g, i, none⟩ := fun i => World.cell?_of_block (w := w) (a := ⟨g, i, none⟩) hb
  have f : ∀ i, w'.frozen? ⟨g, i, none⟩ = w.frozen? ⟨g, i, none⟩ := fun i => World.frozen?_of_block (w := w) (a := ⟨g, i, none⟩) hb
  exact ⟨(e 0).trans h.c0, (e 1).trans h.c1, (e 2).trans h.c2, (e 3).trans h.c3, (f 2).trans h.f2, (f 3).trans h.f3⟩
theorem frozen_set10 (u : World) (g i : Nat) (b : Addr) (v : Value) : (u.setCell ⟨g, i, none⟩ v).frozen? b = u.frozen? b := by
  simp only [World.setCell, World.frozen?, Array.getElem?_modify]
  by_cases hk : g = b.block
  · subst hk
    simp only [if_true]
    cases u.heap[b.block]? with
    | none => rfl
    | some o => cases o <;> rfl
  · simp [hk]
theorem ne_off10 {g i j : Nat} (h : i ≠ j) : (⟨g, i, none⟩ : Addr) ≠ ⟨g, j, none⟩ := fun e => by injection e with _ e2; exact h e2
theorem RowIn.setX {g n c x y : Nat} {w : World} (h : RowIn g w n c x y) (v : Nat) : RowIn g (w.setCell ⟨g, 2, none⟩ (.int .u64 (v : Int))) n c v y :=
  ⟨by rw [World.cell?_setCell_other _ _ _ _ (ne_off10 (by omega))]; exact h.c0, by rw [World.cell?_setCell_other _ _ _ _ (ne_off10 (by omega))]; exact h.c1,
    World.cell?_setCell_same _ _ _ h.c2, by rw [World.cell?_setCell_other _ _ _ _ (ne_off10 (by omega))]; exact h.c3, by rw [frozen_set10]; exact h.f2, by rw [frozen_set10]; exact h.f3⟩
theorem RowIn.setY {g n c x y : Nat} {w : World} (h : RowIn g w n c x y) (v : Nat) : RowIn g (w.setCell ⟨g, 3, none⟩ (.int .u64 (v : Int))) n c x v :=
  ⟨by rw [World.cell?_setCell_other _ _ _ _ (ne_off10 (by omega))]; exact h.c0, by rw [World.cell?_setCell_other _ _ _ _ (ne_off10 (by omega))]; exact h.c1,
    by rw [World.cell?_setCell_other _ _ _ _ (ne_off10 (by omega))]; exact h.c2, World.cell?_setCell_same _ _ _ h.c3, by rw [frozen_set10]; exact h.f2, by rw [frozen_set10]; exact h.f3⟩
set_option maxHeartbeats 4000000 in
theorem behind10 (g n c x y u v : Nat) (w : World) (R : RowIn g w n c x y) (hu : u < n) (hn : n < 18446744073709551616) (hc : c < 18446744073709551616) (hv : rowS n c u = v) :
    Calls Tryz.prog 81 #[.pointer (some ⟨g, 0, none⟩), .int .u64 u] w fun e w' => e = .returned (.int .u64 v) ∧ Drawn w w' := by
  have HM := Lib.hid (Tryz.bits_Mul64 u u (by omega) (by omega) w)
  have h0 := R.c0
  have h1 := R.c1
  unfold rowS at hv
  obtain ⟨s, hs⟩ : ∃ s, u * u = s := ⟨_, rfl⟩
  rw [hs] at HM hv
  have hsl : s + c < n * 18446744073709551616 := by
    have : u * u ≤ (n - 1) * (n - 1) := Nat.mul_le_mul (by omega) (by omega)
    have h2 : (n - 1) * (n - 1) ≤ (n - 1) * 18446744073709551615 := Nat.mul_le_mul (Nat.le_refl _) (by omega)
    omega
  obtain ⟨hi, hhi⟩ : ∃ hi, s / 18446744073709551616 = hi := ⟨_, rfl⟩
  obtain ⟨lo, hlo⟩ : ∃ lo, s % 18446744073709551616 = lo := ⟨_, rfl⟩
  rw [hhi, hlo] at HM
  have hlol : lo < 18446744073709551616 := by omega
  have A1 : ∀ w : World, (callFunc 66 #[.int .u64 (lo : Int), .int .u64 (c : Int), .int .u64 0]).run Tryz.prog w = .ok (.value (.tuple #[.int .u64 (((lo + c) % 18446744073709551616 : Nat) : Int), .int .u64 (((lo + c) / 18446744073709551616 : Nat) : Int)])) w :=
    fun w => add64_run lo c 0 (by omega) w
  obtain ⟨t, ht⟩ : ∃ t, (lo + c) % 18446744073709551616 = t := ⟨_, rfl⟩
  obtain ⟨k, hk⟩ : ∃ k, (lo + c) / 18446744073709551616 = k := ⟨_, rfl⟩
  rw [ht, hk] at A1
  obtain ⟨m, hm⟩ : ∃ m, hi + k = m := ⟨_, rfl⟩
  have hmI : (hi : Int) + (k : Int) = (m : Int) := by omega
  have hml : m < 18446744073709551616 := by omega
  have HD := Lib.hid (fun w => mod10 m t n v w (by omega) hn (by omega) (by rw [← hv]; congr 1; omega))
  clear hs hsl hhi hlo hv ht hk hm R
  go_enter Tryz.func81, Tryz.ntmps81
  go_wp2_with fail
  refine (HM.out).mono ?_
  rintro e w1 ⟨rfl, rfl⟩
  go_wp2_with fail
  refine (HD.out _).mono ?_
  rintro e w2 ⟨rfl, hd⟩
  have HDr := Lib.hid hd
  clear hd
  go_wp2_with fail
  go_ret
  exact ⟨rfl, HDr.out⟩
set_option maxHeartbeats 4000000 in
theorem step10 (g n c x y x' y' : Nat) (w : World) (R : RowIn g w n c x y) (hx : x < n) (hy : y < n) (hn : n < 18446744073709551616) (hc : c < 18446744073709551616) (hx' : rowS n c x = x') (hy' : rowS n c (rowS n c y) = y') :
    Calls Tryz.prog 55 #[.pointer (some ⟨g, 0, none⟩)] w fun e w' => e = .returned (.tuple #[]) ∧ RowIn g w' n c x' y' ∧ Only g w w' := by
  obtain ⟨y1, hy1⟩ : ∃ y1, rowS n c y = y1 := ⟨_, rfl⟩
  rw [hy1] at hy'
  have hy1l : y1 < n := by rw [← hy1]; exact rowS_lt (by omega)
  have C1 := Lib.hid (behind10 g n c x y x x' w R hx hn hc hx')
  have C2 := Lib.hid (fun (u : World) (h : Hid (RowIn g u n c x' y)) => behind10 g n c x' y y y1 u h.out hy hn hc hy1)
  have C3 := Lib.hid (fun (u : World) (h : Hid (RowIn g u n c x' y)) => behind10 g n c x' y y1 y' u h.out hy1l hn hc hy')
  have HR := Lib.hid R
  have h2 := R.c2
  clear hx' hy' hy1 R
  go_enter Tryz.func55, Tryz.ntmps55
  go_wp2_with fail
  refine (C1.out).mono ?_
  rintro e w1 ⟨rfl, hd⟩
  have HR1 := Lib.hid (HR.out.drawn hd)
  have HO1 := Lib.hid (Only.drawn g hd)
  have k2 := HR1.out.c2
  have f2 := HR1.out.f2
  have k3 := HR1.out.c3
  have f3 := HR1.out.f3
  have HR2 := Lib.hid (HR1.out.setX x')
  have HO2 := Lib.hid (HO1.out.trans (Only.set g w1 2 (.int .u64 (x' : Int))))
  clear hd h2
  go_wp2_with fail
  refine (C2.out _ HR2).mono ?_
  rintro e w2 ⟨rfl, hd⟩
  have HR3 := Lib.hid (HR2.out.drawn hd)
  have HO3 := Lib.hid (HO2.out.trans (Only.drawn g hd))
  clear hd k2 f2 k3 f3
  go_wp2_with fail
  refine (C3.out _ HR3).mono ?_
  rintro e w3 ⟨rfl, hd⟩
  have HR4 := Lib.hid (HR3.out.drawn hd)
  have HO4 := Lib.hid (HO3.out.trans (Only.drawn g hd))
  have k3 := HR4.out.c3
  have f3 := HR4.out.f3
  clear hd
  go_wp2_with fail
  go_end0
  exact ⟨rfl, HR4.out.setY y', HO4.out.trans (Only.set g w3 3 _)⟩
theorem dist_lt10 {x y n : Nat} (hx : x < n) (hy : y < n) : distS x y < n := by unfold distS; omega
set_option maxHeartbeats 4000000 in
theorem distance10 (g n c x y v : Nat) (w : World) (R : RowIn g w n c x y) (hx : x < n) (hy : y < n) (hn : n < 18446744073709551616) (hv : distS x y = v) :
    Calls Tryz.prog 57 #[.pointer (some ⟨g, 0, none⟩)] w fun e w' => e = .returned (.int .u64 v) ∧ Drawn w w' := by
  have h2 := R.c2
  have h3 := R.c3
  obtain ⟨mx, hmx⟩ : ∃ mx, max x y = mx := ⟨_, rfl⟩
  obtain ⟨mn, hmn⟩ : ∃ mn, min x y = mn := ⟨_, rfl⟩
  have hDm : mx - mn = v := by rw [← hv, ← hmx, ← hmn]; rfl
  have hmm : mn ≤ mx := by omega
  have hmxI : max (x : Int) (y : Int) = (mx : Int) := by omega
  have hmnI : min (x : Int) (y : Int) = (mn : Int) := by omega
  have hDI : (mx : Int) - (mn : Int) = (v : Int) := by omega
  clear R hv hDm hmx hmn
  go_enter Tryz.func57, Tryz.ntmps57
  go_wp2_with fail
  go_quiet (fail)
  go_wp2_with fail
  go_ret
  exact ⟨rfl, Drawn.more _⟩
theorem NatIs.few10 {w : World} {A : Option Addr} {n c N : Nat} (S : NatIs w A n c N) (hN : N < 18446744073709551616) : n ≤ 1 := by
  have h := S.1
  rw [length_wd] at h
  have := nbits_of_lt N 64 hN
  omega
theorem bSmall10 {w : World} {A : Option Addr} {n c N : Nat} (S : NatIs w A n c N) (hN : N < 18446744073709551616) : Calls Tryz.prog 39 #[.slice A n c] w fun e w' => e = .returned (.tuple #[.int .u64 (N : Int), .bool true]) ∧ Below w.heap.size w w' := small_ok S.in_ hN
set_option maxHeartbeats 4000000 in
theorem common10 (a n v : Nat) (w : World) (ha : a < 18446744073709551616) (hn0 : 0 < n) (hn : n < 18446744073709551616) (hv : Nat.gcd a n = v) :
    Calls Tryz.prog 58 #[.int .u64 a, .int .u64 n] w fun e w' => e = .returned (.int .u64 v) ∧ Below w.heap.size w w' := by
  have hvl : v < 18446744073709551616 := by have := (gcd_pos10 hn0 hv).2; omega
  have HO1 := Lib.hid (bOf w a ha)
  have HO2 := Lib.hid (fun u : World => bOf u n hn)
  have HG := Lib.hid (fun (u : World) (X Y : Option Addr) (q d q2 d2 : Nat) (S : Hid (NatIs u X q d a)) (T : Hid (NatIs u Y q2 d2 n)) => bGcd (n := q) (c := d) (m := q2) (c2 := d2) (w := u) S.out.in_ T.out.in_ (by have := NatIs.few10 S.out ha; omega) (by have := NatIs.few10 T.out hn; omega))
  have HV := Lib.hid hv
  have HS := Lib.hid (fun (u : World) (X : Option Addr) (q d : Nat) (S : Hid (NatIs u X q d v)) => bSmall10 S.out hvl)
  clear hv hvl
  go_enter Tryz.func58, Tryz.ntmps58
  go_wp2_with fail
  refine (HO1.out).mono ?_
  rintro e w1 ⟨X, q, d, rfl, S1, _, b1⟩
  have HS1 := Lib.hid S1
  have B1 := Lib.hid b1
  clear S1 b1
  go_wp2_with fail
  refine (HO2.out w1).mono ?_
  rintro e w2 ⟨Y, q2, d2, rfl, S2, _, b2⟩
  have HS2 := Lib.hid S2
  have HS1 := Lib.hid (HS1.out.step b2)
  have B2 := Lib.hid (below_step B1.out b2)
  clear S2 b2
  go_wp2_with fail
  refine (HG.out w2 X Y q d q2 d2 HS1 HS2).mono ?_
  rintro e w3 ⟨Z, q3, d3, rfl, S3, _, b3⟩
  have HS3 := Lib.hid (show NatIs w3 Z q3 d3 v by rw [← HV.out]; exact S3)
  have B3 := Lib.hid (below_step B2.out b3)
  clear S3 b3
  go_wp2_with fail
  refine (HS.out w3 Z q3 d3 HS3).mono ?_
  rintro e w4 ⟨rfl, b4⟩
  have B4 := Lib.hid (below_step B3.out b4)
  clear b4
  go_wp2_with fail
  go_ret
  exact ⟨rfl, B4.out⟩
end Go.Proofs.YtjpfcdgaepdcdaaGreat
