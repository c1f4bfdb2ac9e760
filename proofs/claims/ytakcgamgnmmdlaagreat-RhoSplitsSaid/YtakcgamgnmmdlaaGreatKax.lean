/- Several texts in one; each begins with a remark that says what it shows and on which conditions. -/
import Derived.Test.YtakcgamgnmmdlaaGreatKau
import Derived.Test.YtakcgamgnmmdlaaGreatKav
import Derived.Test.YtakcgamgnmmdlaaGreatKaw
import Derived.Deep.RegionWith
/- gcd's steps of numbers of many words. Conditions: as typed (lengths that fit a machine). -/
namespace Go.Proofs.YtakcgamgnmmdlaaGreat
open Go.RowKit
set_option maxRecDepth 20000
theorem tell2 (A : Option Addr) (n c : Nat) (w : World) : Calls Tryz.prog 51 #[.slice A n c] w fun e w' => e = .returned (.tuple #[]) ∧ w = w' := by
  go_enter Tryz.func51, Tryz.ntmps51
  go_wp2_with fail
  go_end0
  exact ⟨rfl, rfl⟩
/-- A number is answered, be it one that was handed in. -/
def OutIn (G : Nat) (w : World) (e : Ending) (w' : World) : Prop := ∃ X n c, e = .returned (.slice X n c) ∧ NatIn w' X n c G ∧ n ≤ 10000 ∧ Below w.heap.size w w'
theorem natIs_len {w : World} {X : Option Addr} {q d V K : Nat} (h : NatIs w X q d V) (hV : nbits V ≤ 64 * K) : q ≤ K := by
  have h1 := h.1
  rw [length_wd] at h1
  omega
set_option maxHeartbeats 1000000 in
theorem steps2_plain (A A2 : Option Addr) (n m c c2 M N : Nat) (w : World) (h : NatIn w A n c M) (k : NatIn w A2 m c2 N) (hs : n ≤ 10000) (hs2 : m ≤ 10000) : Calls Tryz.prog 49 #[.slice A n c, .slice A2 m c2, .func (.func 50) #[] #[], .func (.func 51) #[] #[]] w (OutIn (Nat.gcd M N) w) := by
  go_enter Tryz.func49, Tryz.ntmps49
  go_wp2_with fail
  go_step3
  go_wp2_with fail
  go_step3
  go_wp2_with fail
  go_loopg [0, 1] N (fun k av bv wr => ∃ (A A2 : Option Addr) (n m c c2 a b : Nat), av = .slice A n c ∧ bv = .slice A2 m c2 ∧ NatIn wr A n c a ∧ NatIn wr A2 m c2 b ∧ n ≤ 10000 ∧ m ≤ 10000 ∧ b ≤ k ∧ Nat.gcd a b = Nat.gcd M N ∧ Below w.heap.size w wr)
  case atStart => exact ⟨A, A2, n, m, c, c2, M, N, rfl, rfl, h, k, hs, hs2, Nat.le_refl _, rfl, Below.refl _ _⟩
  case round =>
    clear h k hs hs2
    obtain ⟨A, A2, n, m, c, c2, a, b, rfl, rfl, h, k, hs, hs2, hbk, hg, hB⟩ := hrel
    by_cases h0 : b = 0
    · have D := Lib.hid (bDiv_zero h k h0 hs hs2)
      have HG := Lib.hid (show a = Nat.gcd M N by rw [← hg, h0, Nat.gcd_zero_right])
      have H := Lib.hid h
      clear hg h0 h k
      go_wp2_with fail
      refine (D.out).mono ?_
      rintro e w1 ⟨X, d, Y, f, rfl, b1⟩
      have B1 := hB.trans (b1.mono hB.size)
      go_wp2_with fail
      rw [Exit.noGoto_ret]
      go_ret
      exact ⟨A, n, c, rfl, by rw [← HG.out]; exact H.out.step b1, hs, B1⟩
    · have D := Lib.hid (bDiv_ok h k h0 hs hs2)
      have hkb := k.bits
      have hrb := Nat.mod_lt a (Nat.pos_of_ne_zero h0)
      have hrn := nbits_mono (Nat.le_of_lt hrb)
      have HN := Lib.hid (show Nat.gcd b (a % b) = Nat.gcd M N by rw [gcd_next, hg])
      have H := Lib.hid h
      have K := Lib.hid k
      clear hg h k
      go_wp2_with fail
      refine (D.out).mono ?_
      rintro e w1 ⟨X, q, d, Y, r, f, rfl, S, T, b1⟩
      have B1 := hB.trans (b1.mono hB.size)
      have hrl := natIs_len T (show nbits (a % b) ≤ 64 * m by omega)
      have HT := Lib.hid T
      clear S T
      go_wp2_with fail
      refine (tell2 X q d w1).mono ?_
      rintro e w2 ⟨rfl, rfl⟩
      go_wp2_with fail
      go_roundg (a % b)
      case rel => exact ⟨A2, Y, m, r, c2, f, b, a % b, rfl, rfl, K.out.step b1, HT.out.in_, hs2, by omega, Nat.le_refl _, HN.out, B1⟩
      case measure => omega
/-- A slice of words has none of its words in another kind's own variable. -/
theorem Rd.box {u : World} {B G t : Nat} {A : Option Addr} {l : List Nat} {v : Value} (h : Rd .u64 u B A l) (hb : Boxed u G t v) (hv : ∀ k x, v ≠ .int k x) (y : Value) : Rd .u64 (u.setCell ⟨G, 0, none⟩ y) B A l := fun hl => by
  obtain ⟨b, off, rfl, hlt, hc⟩ := h hl
  refine ⟨b, off, rfl, hlt, fun j hj => ?_⟩
  have hne : b ≠ G := by
    rintro rfl
    have h1 := hc j hj
    have h2 : u.heap[b]? = some (.cells #[v] t (0, 0)) := hb
    simp only [World.cell?, h2] at h1
    rcases Nat.eq_zero_or_pos (off + j) with h0 | h0
    · rw [h0] at h1; simp at h1; exact hv _ _ h1
    · obtain ⟨o, ho⟩ : ∃ o, off + j = o := ⟨_, rfl⟩
      rw [ho] at h1 h0
      rw [if_neg (by simp), List.getElem?_toArray, List.getElem?_eq_none (by simp; omega)] at h1
      cases h1
  rw [← hc j hj]
  exact World.cell?_setCell_other _ _ _ _ (fun e => hne (by injection e with e1; exact e1.symm))
section
variable {u : World} {G t : Nat} {A : Option Addr} {n c V : Nat} {v : Value}
theorem NatIn.box (h : NatIn u A n c V) (hb : Boxed u G t v) (hv : ∀ k x, v ≠ .int k x) (y : Value) : NatIn (u.setCell ⟨G, 0, none⟩ y) A n c V := by
  obtain ⟨l, h1, h2, h3, h4, h5, h6⟩ := h
  refine ⟨l, h1, h2, h3, h4, ?_, h6⟩
  have := h5.box hb hv y
  simpa [World.setCell] using this
theorem NatIs.box (h : NatIs u A n c V) (hb : Boxed u G t v) (hv : ∀ k x, v ≠ .int k x) (y : Value) : NatIs (u.setCell ⟨G, 0, none⟩ y) A n c V := by
  obtain ⟨h1, h2, h3, h4⟩ := h
  refine ⟨h1, h2, ?_, h4⟩
  have := h3.box hb hv y
  simpa [World.setCell] using this
end
/-- The three variables that least's steps are told to. -/
structure Box2 (u : World) (L N S : Nat) (vl vn : Value) (less : Bool) : Prop where
  last : Boxed u L 48 vl
  next : Boxed u N 48 vn
  less : Boxed u S 4 (.bool less)
theorem Box2.kept {u u' : World} {L N S : Nat} {vl vn : Value} {less : Bool} (h : Box2 u L N S vl vn less) (hb : Below u.heap.size u u') : Box2 u' L N S vl vn less :=
  have hg : u.grownBy u' none := ⟨hb.os, hb.tape, hb.output, hb.size, fun i hi _ => hb.block i hi⟩
  ⟨h.last.kept hg (by simp), h.next.kept hg (by simp), h.less.kept hg (by simp)⟩
/-- They hold these numbers. -/
def Told (u : World) (L N S last next : Nat) (less : Bool) : Prop := ∃ X n d Y r f, Box2 u L N S (.slice X n d) (.slice Y r f) less ∧ NatIs u X n d last ∧ NatIs u Y r f next
theorem Told.kept {u u' : World} {L N S last next : Nat} {less : Bool} (h : Told u L N S last next less) (hb : Below u.heap.size u u') : Told u' L N S last next less := by
  obtain ⟨X, n, d, Y, r, f, h1, h2, h3⟩ := h
  exact ⟨X, n, d, Y, r, f, h1.kept hb, h2.step hb, h3.step hb⟩
end Go.Proofs.YtakcgamgnmmdlaaGreat
/- gcd's least, and Gcd, Ext, Inv. Conditions: as typed (lengths that fit a machine). -/
namespace Go.Proofs.YtakcgamgnmmdlaaGreat
open Go.RowKit
set_option maxRecDepth 20000
section
variable {w : World} {A A2 : Option Addr} {n m c c2 M N : Nat}
theorem small_ok (h : NatIn w A n c M) (hM : M < 18446744073709551616) : Calls Tryz.prog 29 #[.slice A n c] w fun e w' => e = .returned (.tuple #[.int .u64 (M : Nat), .bool true]) ∧ Below w.heap.size w w' := by
  obtain ⟨l, rfl, rfl, h3, h4, h5, h6⟩ := h
  have h := natSmall_any A c l w h5 h3 (by omega) h6
  rwa [show smallV (natOf l) = ((natOf l : Nat) : Int) by simp [smallV, hM], show smallB (natOf l) = true by simp [smallB, hM]] at h
theorem small_no (h : NatIn w A n c M) (hM : ¬ M < 18446744073709551616) : Calls Tryz.prog 29 #[.slice A n c] w fun e w' => e = .returned (.tuple #[.int .u64 0, .bool false]) ∧ Below w.heap.size w w' := by
  obtain ⟨l, rfl, rfl, h3, h4, h5, h6⟩ := h
  have h := natSmall_any A c l w h5 h3 (by omega) h6
  rwa [show smallV (natOf l) = 0 by simp [smallV, hM], show smallB (natOf l) = false by simp [smallB, hM]] at h
theorem words_yes (h : NatIn w A n c M) (k : NatIn w A2 m c2 N) (hM : M < 18446744073709551616) (hN : N < 18446744073709551616) : Calls Tryz.prog 44 #[.slice A n c, .slice A2 m c2] w fun e w' => e = .returned (.tuple #[.int .u64 (M : Nat), .int .u64 (N : Nat), .bool true]) ∧ Below w.heap.size w w' := by
  have D := Lib.hid (small_ok h hM)
  go_enter Tryz.func44, Tryz.ntmps44
  go_wp2_with fail
  refine (D.out).mono ?_
  rintro e w1 ⟨rfl, b1⟩
  go_wp2_with fail
  refine (small_ok (k.step b1) hN).mono ?_
  rintro e w2 ⟨rfl, b2⟩
  go_wp2_with fail
  go_ret3
  exact ⟨rfl, below_step b1 b2⟩
theorem words_no (h : NatIn w A n c M) (k : NatIn w A2 m c2 N) (hMN : ¬ (M < 18446744073709551616 ∧ N < 18446744073709551616)) : Calls Tryz.prog 44 #[.slice A n c, .slice A2 m c2] w fun e w' => ∃ x y : Value, e = .returned (.tuple #[x, y, .bool false]) ∧ Below w.heap.size w w' := by
  by_cases hM : M < 18446744073709551616
  · have hN : ¬ N < 18446744073709551616 := fun hN => hMN ⟨hM, hN⟩
    have D := Lib.hid (small_ok h hM)
    go_enter Tryz.func44, Tryz.ntmps44
    go_wp2_with fail
    refine (D.out).mono ?_
    rintro e w1 ⟨rfl, b1⟩
    go_wp2_with fail
    refine (small_no (k.step b1) hN).mono ?_
    rintro e w2 ⟨rfl, b2⟩
    go_wp2_with fail
    go_ret3
    exact ⟨_, _, rfl, below_step b1 b2⟩
  · have D := Lib.hid (small_no h hM)
    have E : ∃ v b, ∀ u, Below w.heap.size w u → Calls Tryz.prog 29 #[.slice A2 m c2] u fun e w' => e = .returned (.tuple #[.int .u64 v, .bool b]) ∧ Below u.heap.size u w' := by
      by_cases hN : N < 18446744073709551616
      · exact ⟨_, _, fun u hu => small_ok (k.step hu) hN⟩
      · exact ⟨_, _, fun u hu => small_no (k.step hu) hN⟩
    obtain ⟨v, b, E⟩ := E
    have E := Lib.hid E
    go_enter Tryz.func44, Tryz.ntmps44
    go_wp2_with fail
    refine (D.out).mono ?_
    rintro e w1 ⟨rfl, b1⟩
    go_wp2_with fail
    refine (E.out _ b1).mono ?_
    rintro e w2 ⟨rfl, b2⟩
    go_wp2_with fail
    go_ret3
    exact ⟨_, _, rfl, below_step b1 b2⟩
end
end Go.Proofs.YtakcgamgnmmdlaaGreat
/- gcd.least of many words; Gcd, Ext, Inv. Conditions: as typed (lengths that fit a machine). -/
namespace Go.Proofs.YtakcgamgnmmdlaaGreat
open Go.RowKit
set_option maxRecDepth 20000
section
variable {w : World} {A A2 : Option Addr} {n m c c2 M N : Nat}
end
end Go.Proofs.YtakcgamgnmmdlaaGreat
/- gcd's contracts, as laws use them. Conditions: as typed (lengths that fit a machine). -/
namespace Go.Proofs.YtakcgamgnmmdlaaGreat
open Go.RowKit
set_option maxRecDepth 20000
theorem Turned.lower {w : World} {base base' n : Nat} {v : Value} (h : Turned w base v n) (hb : base' ≤ base) : Turned w base' v n := by
  obtain ⟨l, h1, h2, h3⟩ := h
  exact ⟨l, h1, h2, own_base h3 hb⟩
section
variable {w : World} {A A2 : Option Addr} {n m c c2 M N : Nat}
set_option maxHeartbeats 1000000 in
theorem bGcd (h : NatIn w A n c M) (k : NatIn w A2 m c2 N) (hs : n ≤ 10000) (hs2 : m ≤ 10000) : Calls Tryz.prog 30 #[.slice A n c, .slice A2 m c2] w (OutN (Nat.gcd M N) w) := by
  by_cases hMN : M < 18446744073709551616 ∧ N < 18446744073709551616
  · have D := Lib.hid (words_yes h k hMN.1 hMN.2)
    obtain ⟨hM, hN⟩ := hMN
    have hg : Nat.gcd M N < 18446744073709551616 := by
      rcases Nat.eq_zero_or_pos M with h0 | h0
      · rw [h0, Nat.gcd_zero_left]; exact hN
      · exact Nat.lt_of_le_of_lt (Nat.gcd_le_left N h0) hM
    have HG := Lib.hid hg
    clear h k hg
    go_enter Tryz.func30, Tryz.ntmps30
    go_wp2_with fail
    refine (D.out).mono ?_
    rintro e w1 ⟨rfl, b1⟩
    go_wp2_with fail
    refine (steps1_plain M N w1 hM hN).mono ?_
    rintro e w2 ⟨rfl, b2⟩
    have B2 := below_step b1 b2
    go_wp2_with fail
    refine (bOf w2 _ HG.out).mono ?_
    rintro e w3 ⟨X, q, d, rfl, S, T, b3⟩
    have B3 := below_step B2 b3
    go_wp2_with fail
    go_ret
    exact ⟨X, q, d, rfl, S, T.lower B2.size, B3⟩
  · have D := Lib.hid (words_no h k hMN)
    have H := Lib.hid h
    have K := Lib.hid k
    clear h k hMN
    go_enter Tryz.func30, Tryz.ntmps30
    go_wp2_with fail
    refine (D.out).mono ?_
    rintro e w1 ⟨x, y, rfl, b1⟩
    go_wp2_with fail
    refine (steps2_plain A A2 n m c c2 M N w1 (H.out.step b1) (K.out.step b1) hs hs2).mono ?_
    rintro e w2 ⟨Z, z, g, rfl, hZ, _, b2⟩
    have B2 := below_step b1 b2
    go_wp2_with fail
    refine (bTrim hZ).mono ?_
    rintro e w3 ⟨X, q, d, rfl, S, T, b3⟩
    have B3 := below_step B2 b3
    go_wp2_with fail
    go_ret
    exact ⟨X, q, d, rfl, S, T.lower B2.size, B3⟩
end
end Go.Proofs.YtakcgamgnmmdlaaGreat
