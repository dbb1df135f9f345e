/- bits: sought, next, Next. -/
import Derived.Test.YtocgdibadcmnfaaDoorBtCount
import Derived.Deep.LoopGhost
import Derived.Deep.DeepCutAuto
namespace Go.Proofs.YtocgdibadcmnfaaDoor
open Go.RowKit

/-- The bits that are sought. -/
def onB (f : Nat → Bool) (on : Bool) (i : Nat) : Bool := f i == on
def soughtR (x k a b : Nat) (on : Bool) : Nat := (if on then x else top - x) &&& maskR k a b
theorem sought_lt (x k a b : Nat) (on : Bool) : soughtR x k a b on < 18446744073709551616 := Nat.and_lt_two_pow (n := 64) _ (mask_lt _ _ _)
theorem sought_bit {ws : List Nat} {k : Nat} (hk : k < ws.length) (hx : ws[k] < 2 ^ 64) (a b : Nat) (on : Bool) (j : Nat) : (soughtR ws[k] k a b on).testBit j = (decide (j < 64) && inWin (onB (bitN ws) on) a b (64 * k + j)) := by
  unfold soughtR inWin onB
  rw [Nat.testBit_and, mask_bit]
  by_cases hj : j < 64
  · rw [bitN_at _ _ _ hj, List.getElem?_eq_getElem hk]
    cases on
    · simp only [Bool.false_eq_true, if_false, Option.getD_some, not_bit hx]
      cases h : ws[k].testBit j <;> simp [hj]
    · simp only [if_true, Option.getD_some]
      cases h : ws[k].testBit j <;> simp [hj]
  · simp [hj]
/-- The box of bits that came in. -/
structure BoxAt (W : World) (B : Nat) (n : Int) (s : Value) : Prop where
  c0 : W.cell? ⟨B, 0, none⟩ = some (.int .i64 n)
  c1 : W.cell? ⟨B, 1, none⟩ = some s
  lt : B < W.heap.size
theorem BoxAt.below {W W' : World} {B : Nat} {n : Int} {s : Value} (h : BoxAt W B n s) (hb : Below W.heap.size W W') : BoxAt W' B n s :=
  ⟨(hb.cell (p := ⟨B, 0, none⟩) h.lt).trans h.c0, (hb.cell (p := ⟨B, 1, none⟩) h.lt).trans h.c1, Nat.lt_of_lt_of_le h.lt hb.size⟩
theorem BoxAt.new (w : World) (n : Int) (s : Value) (t : TypeId) : BoxAt (w.alloc (.cells #[.int .i64 n, s] t)) w.heap.size n s :=
  ⟨by simp, by simp, by simp⟩
theorem xor_top {x : Nat} (hx : x < 2 ^ 64) : top ^^^ x = top - x := by
  apply Nat.eq_of_testBit_eq
  intro j
  rw [Nat.testBit_xor, not_bit hx, top_pow, Nat.testBit_two_pow_sub_one]
  by_cases hj : j < 64
  · simp [hj]
  · rw [big_bit hx (by omega)]; simp [hj]
theorem not_u64 (x : Nat) (hx : x < 18446744073709551616) : bits .xor .u64 IntKind.u64.max (x : Int) = ((top - x : Nat) : Int) := by
  rw [← xor_top hx]
  exact u64_xor_nat top x (by unfold top; omega) hx
def WordPost (y : Nat) (w : World) (e : Ending) (w' : World) : Prop := e = .returned (.int .u64 (y : Int)) ∧ Below w.heap.size w w'

set_option maxHeartbeats 1000000 in
set_option maxRecDepth 100000 in
theorem sought_any (n : Int) (p : Option Addr) (cap : Nat) (ws : List Nat) (k a b : Nat) (on : Bool) (w : World) (h : WordsAt w p ws) (hk : k < ws.length) (hk4 : k ≤ 64) (ha : a ≤ 5000) (hb : b ≤ 5000) :
    Calls Tryd.prog 59 #[.agg #[.int .i64 n, .slice p ws.length cap], .int .i64 (k : Int), .int .i64 (a : Int), .int .i64 (b : Int), .bool on] w (WordPost (soughtR ws[k] k a b on) w) := by
  obtain ⟨g, off, rfl, hg, hcw⟩ := h.at_ (by omega)
  have c0 := hcw k hk
  have hx := word_in h.lt k hk
  have cm := fun W => mask_any k a b (by omega) (by omega) (by omega) W
  have i1 : (k : Int) < ws.length := by omega
  cases on
  · have e3 := u64_and_nat (top - ws[k]) (maskR k a b) (by unfold top; omega) (mask_lt _ _ _)
    have es : soughtR ws[k] k a b false = (top - ws[k]) &&& maskR k a b := rfl
    rw [← es] at e3
    generalize soughtR ws[k] k a b false = y at e3 ⊢
    rw [← not_u64 _ hx] at e3
    generalize ws[k] = x at c0 hx e3
    generalize maskR k a b = M at cm e3
    have CM := Lib.hid cm; have E3 := Lib.hid e3
    clear cm hcw e3 es
    go_enter Tryd.func59, Tryd.ntmps59
    go_wp2_with (go_at_call 53; refine (CM.out _).mono ?_; rintro e w' ⟨rfl, rfl⟩)
    go_ret
    exact ⟨ret_int E3.out, (Below.refl _ _).alloc (Nat.le_refl _) _⟩
  · have e3 := u64_and_nat ws[k] (maskR k a b) hx (mask_lt _ _ _)
    have es : soughtR ws[k] k a b true = ws[k] &&& maskR k a b := rfl
    rw [← es] at e3
    generalize soughtR ws[k] k a b true = y at e3 ⊢
    generalize ws[k] = x at c0 hx e3
    generalize maskR k a b = M at cm e3
    have CM := Lib.hid cm; have E3 := Lib.hid e3
    clear cm hcw e3 es
    go_enter Tryd.func59, Tryd.ntmps59
    go_wp2_with (go_at_call 53; refine (CM.out _).mono ?_; rintro e w' ⟨rfl, rfl⟩)
    go_ret
    exact ⟨ret_int E3.out, (Below.refl _ _).alloc (Nat.le_refl _) _⟩
/-- The first i below n with p; n if there is none. -/
def nextN (p : Nat → Bool) (n : Nat) : Nat := if (findR p n).2 = 0 then (findR p n).1.toNat else n
theorem nextN_some {p : Nat → Bool} {n i : Nat} (hi : i < n) (hp : p i = true) (hm : ∀ j, j < i → p j = false) : nextN p n = i := by
  unfold nextN; rw [findR_some hi hp hm]; simp
theorem nextN_none {p : Nat → Bool} {n : Nat} (h : ∀ i, i < n → p i = false) : nextN p n = n := by
  unfold nextN; rw [findR_none h]; simp
theorem nextN_cases (p : Nat → Bool) (n : Nat) : (nextN p n < n ∧ p (nextN p n) = true ∧ (∀ j, j < nextN p n → p j = false) ∧ findR p n = (((nextN p n : Nat) : Int), 0)) ∨ (nextN p n = n ∧ (∀ i, i < n → p i = false) ∧ findR p n = (0, 4)) := by
  rcases findR_cases p n with ⟨i, hi, hp, hm, e⟩ | ⟨hn, e⟩
  · have := nextN_some hi hp hm
    rw [this]; exact .inl ⟨hi, hp, hm, e⟩
  · exact .inr ⟨nextN_none hn, hn, e⟩
/-- What is sought from a on. -/
def fromB (f : Nat → Bool) (on : Bool) (a : Nat) (i : Nat) : Bool := decide (a ≤ i) && onB f on i
theorem win_from (f : Nat → Bool) (on : Bool) (a n i : Nat) : inWin (onB f on) a n i = (fromB f on a i && decide (i < n)) := by
  unfold inWin fromB; cases onB f on i <;> simp
def NatPost (y : Nat) (w : World) (e : Ending) (w' : World) : Prop := e = .returned (.int .i64 (y : Int)) ∧ Below w.heap.size w w'
theorem natPost_mk {y : Nat} {z : Int} {w w' : World} (h : (y : Int) = z) (hb : Below w.heap.size w w') : NatPost y w (.returned (.int .i64 z)) w' := ⟨by rw [h], hb⟩
/-- A word without a bit that is sought. -/
theorem from_skip {ws : List Nat} {k m a : Nat} {on : Bool} (hk : k < ws.length) (hx : ws[k] < 2 ^ 64) (h : soughtR ws[k] k a m on = 0) (hp : ∀ i, i < 64 * k → i < m → fromB (bitN ws) on a i = false) : ∀ i, i < 64 * (k + 1) → i < m → fromB (bitN ws) on a i = false := by
  intro i hi him
  by_cases h1 : i < 64 * k
  · exact hp i h1 him
  · have hb := sought_bit hk hx a m on (i - 64 * k)
    rw [h, show 64 * k + (i - 64 * k) = i by omega, win_from] at hb
    have h2 : i - 64 * k < 64 := by omega
    simpa [h2, him] using hb.symm
theorem from_hit {ws : List Nat} {k m a : Nat} {on : Bool} (hk : k < ws.length) (hx : ws[k] < 2 ^ 64) (h : soughtR ws[k] k a m on ≠ 0) (hp : ∀ i, i < 64 * k → i < m → fromB (bitN ws) on a i = false) :
    nextN (fromB (bitN ws) on a) m = 64 * k + Lib.ctz 64 (soughtR ws[k] k a m on) ∧ 64 * k + Lib.ctz 64 (soughtR ws[k] k a m on) < m := by
  obtain ⟨h1, h2, h3, _⟩ := ctz_bit h (sought_lt _ _ _ _ _)
  have hb := fun j => sought_bit hk hx a m on j
  generalize soughtR ws[k] k a m on = x at h1 h2 h3 hb
  generalize Lib.ctz 64 x = c at h1 h2 h3
  have hc := hb c
  rw [h2, win_from] at hc
  have hc' : fromB (bitN ws) on a (64 * k + c) = true ∧ 64 * k + c < m := by simpa [h1] using hc.symm
  refine ⟨nextN_some hc'.2 hc'.1 fun i hi => ?_, hc'.2⟩
  by_cases hik : i < 64 * k
  · exact hp i hik (by omega)
  · have hj := hb (i - 64 * k)
    rw [h3 _ (by omega), win_from, show 64 * k + (i - 64 * k) = i by omega] at hj
    have h4 : i - 64 * k < 64 := by omega
    have h5 : i < m := by omega
    simpa [h4, h5] using hj.symm

set_option maxHeartbeats 1000000 in
set_option maxRecDepth 100000 in
theorem next_any (m : Nat) (p : Option Addr) (cap : Nat) (ws : List Nat) (a : Nat) (on : Bool) (w : World) (h : WordsAt w p ws) (hv : Valid m ws) (ha : a ≤ m) (he : BEnv w) :
    Calls Tryd.prog 61 #[.agg #[.int .i64 (m : Int), .slice p ws.length cap], .int .i64 (a : Int), .bool on] w (NatPost (nextN (fromB (bitN ws) on a) m) w) := by
  obtain ⟨hr1, hr2⟩ := valid_room hv
  have hm := hv.le
  have a1 : (a : Int) ≤ 4096 := by omega
  have a0 : (0 : Int) ≤ (a : Int) := by omega
  have HW := Lib.hid h; have HE := Lib.hid he
  clear h hv he
  go_enter Tryd.func61, Tryd.ntmps61
  go_wp2_with fail
  go_loopg [7] (ws.length - a / 64) (fun n i wr => ∃ k : Nat, k + n = ws.length - a / 64 + a / 64 ∧ a / 64 ≤ k ∧ i = .int .i64 k ∧ Below w.heap.size w wr ∧ BoxAt wr w.heap.size m (.slice p ws.length cap) ∧ ∀ i, i < 64 * k → i < m → fromB (bitN ws) on a i = false)
  case atStart =>
    refine ⟨a / 64, by omega, Nat.le_refl _, (congrArg (Value.int .i64) (by omega)), (Below.refl _ _).alloc (Nat.le_refl _) _, BoxAt.new _ _ _ _, fun i hi _ => ?_⟩
    unfold fromB
    have : decide (a ≤ i) = false := by simp; omega
    rw [this]; rfl
  case round =>
    obtain ⟨k, hkn, hak, rfl, hbw, hbox, hall⟩ := hrel
    have b0 := hbox.c0
    have b1 := hbox.c1
    have HALL := Lib.hid hall; have HB := Lib.hid hbw; have HX := Lib.hid hbox
    clear hall hbw hbox
    by_cases hlt : k < ws.length
    · obtain ⟨n', rfl⟩ : ∃ n', gk = n' + 1 := ⟨gk - 1, by omega⟩
      have hx := word_in HW.out.lt k hlt
      have cs := fun W (hW : Below w.heap.size w W) => sought_any m p cap ws k a m on W (HW.out.below hW) hlt (by omega) (by omega) (by omega)
      have hskip := fun h => from_skip (a := a) (m := m) (on := on) hlt hx h HALL.out
      have hhit := fun h => from_hit (a := a) (m := m) (on := on) hlt hx h HALL.out
      have hyl := sought_lt ws[k] k a m on
      generalize soughtR ws[k] k a m on = y at cs hskip hhit hyl
      unfold WordPost at cs
      have ik : (k : Int) < ws.length := by omega
      by_cases hy : y = 0
      · subst hy
        have hs := hskip rfl
        have CS := Lib.hid cs; have HS := Lib.hid hs
        clear cs hskip hhit hs
        go_wp2_with (go_at_call 59; refine (CS.out _ HB.out).mono ?_; rintro e w1 ⟨rfl, hb1⟩; have HB1 := Lib.hid (HB.out.trans (hb1.mono HB.out.size)); have HX1 := Lib.hid (HX.out.below hb1); clear hb1 b0 b1)
        go_roundg n'
        case measure => omega
        case rel => exact ⟨k + 1, by omega, by omega, by go_num, HB1.out, HX1.out, HS.out⟩
      · obtain ⟨hn1, hn2⟩ := hhit hy
        have cz := fun W (hW : BEnv W) => ctz_any y hyl hy W hW
        obtain ⟨t1, t2⟩ : ((y : Int) != 0) = true ∧ ((y : Int) == 0) = false := neq0 (by omega)
        generalize Lib.ctz 64 y = c at hn1 hn2 cz
        generalize nextN (fromB (bitN ws) on a) m = N at hn1 ⊢
        have cc : (c : Int) ≤ 4096 := by omega
        have CS := Lib.hid cs; have CZ := Lib.hid cz; have HN := Lib.hid hn1
        clear cs cz hskip hhit hn1 hy
        go_wp2_with (first
          | (go_at_call 59; refine (CS.out _ HB.out).mono ?_; rintro e w1 ⟨rfl, hb1⟩; have HB1 := Lib.hid (HB.out.trans (hb1.mono HB.out.size)); clear hb1 b0 b1 CS)
          | (go_at_call 60; refine (CZ.out _ (HE.out.below HB1.out)).mono ?_; rintro e w' ⟨rfl, rfl⟩))
        go_ret
        exact natPost_mk (by rw [HN.out]; omega) HB1.out
    · have hfin : nextN (fromB (bitN ws) on a) m = m := nextN_none fun i hi => HALL.out i (by omega) hi
      have HF := Lib.hid hfin
      have ik : ¬ (k : Int) < ws.length := by omega
      clear hfin
      go_wp2_with fail
      go_ret
      exact natPost_mk (by rw [HF.out]) HB.out
end Go.Proofs.YtocgdibadcmnfaaDoor
