/- nat.Cmp: which is the lesser number. Conditions: as typed (lengths that fit a machine). -/
import Derived.Test.YtjimnepjheppgaaNatP3
namespace Go.Proofs.Ytjimnepjheppgaa
open Go.RowKit Go.Shelf
set_option maxRecDepth 20000

attribute [local go_sem] Oper.semAt_some

/-- A place and a word. -/
abbrev WI (n : Nat) := { p : Nat × Nat // p.1 < n ∧ p.2 < 18446744073709551616 }
/-- What comes in round k: the words from the last on. -/
def backAt (a : List Nat) (ha : Words a) (n k : Nat) (h : k < n) : WI n := ⟨(n - 1 - k, nth a (n - 1 - k)), by omega, nth_lt a ha _⟩
def backs (a : List Nat) (ha : Words a) (n : Nat) : Nat → List (WI n)
  | 0 => []
  | k + 1 => if h : k < n then backs a ha n k ++ [backAt a ha n k h] else backs a ha n k
theorem backs_succ (a : List Nat) (ha : Words a) (n k : Nat) (h : k < n) : backs a ha n (k + 1) = backs a ha n k ++ [backAt a ha n k h] := by rw [backs, dif_pos h]
theorem backs_length (a : List Nat) (ha : Words a) (n k : Nat) (h : k ≤ n) : (backs a ha n k).length = k := by
  induction k with
  | zero => rfl
  | succ k ih => rw [backs_succ a ha n k (by omega)]; simp [ih (by omega)]
theorem mem_backs (a : List Nat) (ha : Words a) (n k j : Nat) (hk : k ≤ n) (hj : j < k) : backAt a ha n j (by omega) ∈ backs a ha n k := by
  induction k with
  | zero => omega
  | succ k ih =>
    rw [backs_succ a ha n k (by omega)]
    rcases Nat.lt_or_ge j k with h | h
    · exact List.mem_append.2 (.inl (ih (by omega) h))
    · obtain rfl : j = k := by omega
      simp

set_option maxRecDepth 100000 in
set_option maxHeartbeats 2000000 in
theorem back1_in (n : Nat) (hn : 1 ≤ n) (l p n₀ : Nat) (A : Option Addr) (a : List Nat) (ha : Words a) (c : Nat) (hla : a.length ≤ 1000000) (J Jx : List (WI a.length) → World → Prop) (W : World)
    (hY : ∀ pre x W, J pre W → pre.length < a.length → YieldAt Fence.wide (n - 1) Try.prog l #[.int .i64 (x.1.1 : Int), .int .u64 (x.1.2 : Int)] W fun e W' =>
      (e = .returned (.bool true) ∧ J (pre ++ [x]) W' ∧ Below n₀ W W') ∨ (e = .returned (.bool false) ∧ Jx (pre ++ [x]) W'))
    (hp : Boxed W p 23 (.slice A a.length c)) (hpn : p < n₀) (hra : Rd .u64 W n₀ A a) (h0 : J [] W) :
    CallsIn Fence.wide n Try.prog 49 #[.func (.yield l) #[] #[], .pointer (some ⟨p, 0, none⟩)] W fun e W' => (∃ v, e = .returned v) ∧
      ((∃ ys, ys = backs a ha a.length a.length ∧ J ys W') ∨ (∃ pre, (∃ k, k ≤ a.length ∧ pre = backs a ha a.length k) ∧ Jx pre W')) := by
  have hpc := hp.cell
  refine callsIn_of_wp Try.func49 rfl trivial ?_ rfl
  simp only [Try.ntmps49, List.size_toArray, List.length_cons, List.length_nil, Nat.reduceAdd, Nat.reduceSub, Array.replicate_succ, Array.replicate_zero, List.push_toArray, List.append_toArray, List.nil_append, List.cons_append]
  gi_wp2
  gi_loopw [3] (fun i wr => ∃ k : Nat, k ≤ a.length ∧ i = .int .i64 ((k : Int) - 1) ∧ J (backs a ha a.length (a.length - k)) wr ∧ Below n₀ W wr) (fun i _ => (intOf i + 1).toNat)
  case atStart => exact ⟨a.length, Nat.le_refl _, rfl, by simpa [backs] using h0, Below.refl _ _⟩
  case round =>
    obtain ⟨k, hk, rfl, hJs, hkp⟩ := hrel
    by_cases hlt : 0 < k
    · obtain ⟨i, rfl⟩ : ∃ i, k = i + 1 := ⟨k - 1, by omega⟩
      have hpc1 : wr.cell? ⟨p, 0, none⟩ = some (.slice A a.length c) := (hkp.cell (p := ⟨p, 0, none⟩) hpn).trans hpc
      obtain ⟨b, off, rfl, hb, hcell⟩ := hra.below hkp (by omega)
      have hx := hcell i (by omega)
      clear hcell
      have hY1 := hY (backs a ha a.length (a.length - (i + 1))) (backAt a ha a.length (a.length - (i + 1)) (by omega)) wr hJs (by rw [backs_length _ _ _ _ (by omega)]; omega)
      have e0 : a.length - 1 - (a.length - (i + 1)) = i := by omega
      have hY2 : YieldAt Fence.wide (n - 1) Try.prog l #[.int .i64 (i : Int), .int .u64 (nth a i : Int)] wr fun e W' =>
          (e = .returned (.bool true) ∧ J (backs a ha a.length (a.length - i)) W' ∧ Below n₀ wr W') ∨ (e = .returned (.bool false) ∧ Jx (backs a ha a.length (a.length - i)) W') := by
        have e1 : backs a ha a.length (a.length - i) = backs a ha a.length (a.length - (i + 1)) ++ [backAt a ha a.length (a.length - (i + 1)) (by omega)] := by
          rw [← backs_succ]
          congr 1
          omega
        rw [e1]
        unfold backAt at hY1 ⊢
        simp only [e0] at hY1 ⊢
        exact hY1
      obtain ⟨fn, tmps, assign, body, hy, hR⟩ := hY2
      clear hY1 e0 hpc
      rw [show ((i + 1 : Nat) : Int) - 1 = (i : Int) by omega]
      gi_wp2
      refine hR.mono ?_
      rintro e W3 (⟨rfl, hJ3, hk3⟩ | ⟨rfl, hJx3⟩)
      · gi_wp2
        go_roundw
        case rel => exact ⟨i, by omega, rfl, hJ3, hkp.trans hk3⟩
        case measure => simp [intOf] <;> omega
      · gi_wp2
        refine bodyPost_ret (results_none rfl _ _ _) rfl ?_
        exact ⟨⟨_, rfl⟩, .inr ⟨_, ⟨a.length - i, by omega, rfl⟩, hJx3⟩⟩
    · obtain rfl : k = 0 := by omega
      gi_wp2
      go_end0
      exact ⟨⟨_, rfl⟩, .inl ⟨_, rfl, hJs⟩⟩

set_option maxHeartbeats 1000000 in
theorem back_in (n : Nat) (A : Option Addr) (na c : Nat) (w : World) :
    CallsIn Fence.wide n Try.prog 28 #[.slice A na c] w fun e w' =>
      e = .returned (.func (.func 49) #[] #[.pointer (some ⟨w.heap.size, 0, none⟩)]) ∧ w.alloc (.cells #[.slice A na c] 23) = w' := by
  refine callsIn_of_wp Try.func28 rfl trivial ?_ rfl
  simp only [Try.ntmps28, List.size_toArray, List.length_cons, List.length_nil, Nat.reduceAdd, Nat.reduceSub, Array.replicate_succ, Array.replicate_zero, List.push_toArray, List.append_toArray, List.nil_append, List.cons_append]
  gi_wp2
  go_ret
  exact ⟨rfl, rfl⟩

theorem back_stops (n : Nat) (hn : 1 ≤ n) (p n₀ : Nat) (A : Option Addr) (a : List Nat) (ha : Words a) (c : Nat) (hla : a.length ≤ 1000000)
    (w : World) (hp : Boxed w p 23 (.slice A a.length c)) (hpn : p < n₀) (hn₀ : n₀ ≤ w.heap.size) (hra : Rd .u64 w n₀ A a) :
    SeqStopsK Fence.wide n Try.prog 49 #[.pointer (some ⟨p, 0, none⟩)] (fun x : WI a.length => #[Value.int .i64 (x.1.1 : Int), Value.int .u64 (x.1.2 : Int)]) (Below n₀)
      (fun ys => ys = backs a ha a.length a.length) (fun pre => ∃ k, k ≤ a.length ∧ pre = backs a ha a.length k) a.length w := fun l J Jx W hW _ _ hY h0 =>
  back1_in n hn l p n₀ A a ha c hla J Jx W hY ((hW.block p hp.lt).trans hp) hpn (hra.below (hW.mono hn₀)) h0

/-! which is the lesser one -/
theorem cmpS_swap {x y X Y : Nat} (h1 : x < y → X < Y) (h2 : y < x → Y < X) (h3 : x = y → X = Y) : cmpS x y = cmpS X Y := by
  unfold cmpS
  rcases Nat.lt_trichotomy x y with h | h | h
  · rw [if_pos h, if_pos (h1 h)]
  · have := h3 h
    rw [if_neg (by omega), if_neg (by omega), if_neg (by omega), if_neg (by omega)]
  · have := h2 h
    rw [if_neg (by omega), if_pos h, if_neg (by omega), if_pos this]
theorem cmp_len (M N : Nat) (h : (wd M).length ≠ (wd N).length) : cmpS (wd M).length (wd N).length = cmpS M N := by
  rw [length_wd, length_wd] at *
  exact cmpS_swap (fun h1 => less_of_nbits (by omega)) (fun h1 => less_of_nbits (by omega)) (fun h1 => absurd h1 h)
theorem cmp_at (a b : List Nat) (ha : Words a) (hb : Words b) (m : Nat) (h : ∀ j, m + 1 ≤ j → nth a j = nth b j) (hne : nth a m ≠ nth b m) : cmpS (nth a m) (nth b m) = cmpS (natOf a) (natOf b) :=
  cmpS_swap (fun h1 => natOf_less a b ha m h h1) (fun h1 => natOf_less b a hb m (fun j hj => (h j hj).symm) h1) (fun h1 => absurd h1 hne)
end Go.Proofs.Ytjimnepjheppgaa
