/- bits: Count. -/
import Derived.Test.YtocgdibadcmnfaaDoorBtGet2
namespace Go.Proofs.YtocgdibadcmnfaaDoor
open Go.RowKit

def countR (n : Int) (ws : List Nat) (a b : Int) : Int × Int := if runR n ws a b ≠ 0 then (0, runR n ws a b) else (((cnt (bitN ws) b.toNat - cnt (bitN ws) a.toNat : Nat) : Int), 0)
def IntErr (r : Int × Int) (w : World) (e : Ending) (w' : World) : Prop := e = .returned (.tuple #[.int .i64 r.1, .int .i64 r.2]) ∧ Below w.heap.size w w'
theorem intErr_mk {r : Int × Int} {a c : Int} {w w' : World} (h : r = (a, c)) (hb : Below w.heap.size w w') : IntErr r w (.returned (.tuple #[.int .i64 a, .int .i64 c])) w' := ⟨by rw [h], hb⟩
theorem runR_ok {n : Int} {ws : List Nat} {a b : Int} (hl : ∀ x ∈ ws, x < 2 ^ 64) (h : runR n ws a b = 0) : ∃ m i j : Nat, n = m ∧ a = i ∧ b = j ∧ i ≤ j ∧ j ≤ m ∧ Valid m ws := by
  unfold runR at h
  by_cases hc : checkR n ws ≠ 0
  · rw [if_pos hc] at h; exact absurd h hc
  · rw [if_neg hc] at h
    obtain ⟨hn, hv⟩ := checkR_ok hl (Classical.not_not.1 hc)
    by_cases h1 : a < 0 ∨ b < a ∨ n < b
    · rw [if_pos h1] at h; cases h
    · exact ⟨n.toNat, a.toNat, b.toNat, by omega, by omega, by omega, by omega, by omega, hv⟩
theorem valid_room {m : Nat} {ws : List Nat} (h : Valid m ws) : m ≤ 64 * ws.length ∧ ws.length ≤ 64 := by
  have := h.le
  rw [h.len]; unfold lenW; omega
def inWin (f : Nat → Bool) (a b : Nat) (i : Nat) : Bool := f i && (decide (a ≤ i) && decide (i < b))
theorem win_word {ws : List Nat} (a b k : Nat) (hk : k < ws.length) : cnt (inWin (bitN ws) a b) (64 * (k + 1)) = cnt (inWin (bitN ws) a b) (64 * k) + cnt (ws[k] &&& maskR k a b).testBit 64 := by
  rw [show 64 * (k + 1) = 64 * k + 64 by omega, cnt_add]
  congr 1
  refine cnt_congr _ fun j hj => ?_
  unfold inWin
  rw [bitN_at _ _ _ hj, List.getElem?_eq_getElem hk, Nat.testBit_and, mask_bit]
  simp only [Option.getD_some]
  congr 1
  rw [Bool.eq_iff_iff]; simp [hj]

set_option maxHeartbeats 1000000 in
set_option maxRecDepth 100000 in
theorem count_any (n : Int) (p : Option Addr) (cap : Nat) (ws : List Nat) (a b : Int) (w : World) (h : WordsAt w p ws) :
    Calls Tryd.prog 24 #[.agg #[.int .i64 n, .slice p ws.length cap], .int .i64 a, .int .i64 b] w (IntErr (countR n ws a b) w) := by
  have ck := fun W (hW : Below w.heap.size w W) => checkRun_any n p cap ws a b W (h.below hW)
  unfold ErrPost at ck
  have e : countR n ws a b = if runR n ws a b ≠ 0 then (0, runR n ws a b) else (((cnt (bitN ws) b.toNat - cnt (bitN ws) a.toNat : Nat) : Int), 0) := rfl
  have hok := runR_ok (n := n) (a := a) (b := b) h.lt
  have HW := Lib.hid h
  generalize runR n ws a b = c at ck e hok
  generalize countR n ws a b = r at e
  have CK := Lib.hid ck; clear ck h
  by_cases hc : c ≠ 0
  · rw [if_pos hc] at e
    obtain ⟨t1, t2⟩ := neq0 hc
    have E := Lib.hid e; clear e hc hok
    go_enter Tryd.func24, Tryd.ntmps24
    go_wp2_with (go_at_call 56; refine (CK.out _ ((Below.refl _ _).alloc (Nat.le_refl _) _)).mono ?_; rintro e w1 ⟨rfl, hb⟩; have HB := Lib.hid (boxB hb); clear hb)
    go_ret2
    exact intErr_mk E.out HB.out
  · rw [if_neg hc] at e
    obtain rfl : c = 0 := Classical.not_not.1 hc
    obtain ⟨m, i, j, rfl, rfl, rfl, hij, hjm, hv⟩ := hok rfl
    rw [Int.toNat_natCast, Int.toNat_natCast] at e
    obtain ⟨hr1, hr2⟩ := valid_room hv
    have hm := hv.le
    have hwin : cnt (inWin (bitN ws) i j) (64 * ws.length) = cnt (bitN ws) j - cnt (bitN ws) i := cnt_window (bitN ws) i j hij _ (by omega)
    rw [← hwin] at e
    have E := Lib.hid e; clear e hwin hok hc hv
    go_enter Tryd.func24, Tryd.ntmps24
    go_wp2_with (go_at_call 56; refine (CK.out _ ((Below.refl _ _).alloc (Nat.le_refl _) _)).mono ?_; rintro e w1 ⟨rfl, hb⟩; have HB := Lib.hid (boxB hb); have HW1 := Lib.hid (HW.out.below (boxB hb)); obtain ⟨hcell, hfz⟩ := bcell hb; clear hb)
    clear hcell hfz
    go_loop [9, 22] (fun s t => ∃ k : Nat, k ≤ ws.length ∧ t = .int .i64 k ∧ s = .int .i64 ((cnt (inWin (bitN ws) i j) (64 * k) : Nat) : Int)) (fun _ t => ws.length - (intOf t).toNat)
    case atStart => exact ⟨0, Nat.zero_le _, by go_num, rfl⟩
    case round =>
      obtain ⟨k, hk, rfl, rfl⟩ := hrel
      by_cases hlt : k < ws.length
      · obtain ⟨g, off, rfl, hg, hcw⟩ := HW1.out.at_ (by omega)
        have c0 := hcw k hlt
        have hx := word_in HW1.out.lt k hlt
        have hsn := win_word i j k hlt
        have e3 := u64_and_nat ws[k] (maskR k i j) hx (mask_lt _ _ _)
        have hy : ws[k] &&& maskR k i j < 18446744073709551616 := Nat.and_lt_two_pow (n := 64) _ (mask_lt _ _ _)
        have cm := fun W => mask_any k i j (by omega) (by omega) (by omega) W
        have hle := cnt_le (inWin (bitN ws) i j) (64 * k)
        generalize ws[k] = x at c0 e3 hy hsn
        generalize maskR k i j = M at cm e3 hy hsn
        generalize x &&& M = y at e3 hy hsn
        have cp := fun W => pop_any y hy W
        have hle2 := cnt_le y.testBit 64
        generalize cnt (inWin (bitN ws) i j) (64 * k) = S at hsn hle ⊢
        generalize cnt y.testBit 64 = P at hsn cp hle2
        have ik : (k : Int) < ws.length := by omega
        have s1 : (S : Int) ≤ 4096 := by omega
        have p1 : (P : Int) ≤ 64 := by omega
        have HS := Lib.hid hsn; have CM := Lib.hid cm; have CP := Lib.hid cp
        clear hsn cm cp hcw hx hy
        go_wp2_with (first
          | (go_at_call 53; refine (CM.out _).mono ?_; rintro e w' ⟨rfl, rfl⟩)
          | (go_at_call 58; refine (CP.out _).mono ?_; rintro e w' ⟨rfl, rfl⟩))
        go_round
        case rel => exact ⟨k + 1, by omega, by go_num, by rw [HS.out]; go_num⟩
        case measure => simp [intOf]; omega
      · obtain rfl : k = ws.length := by omega
        go_wp2_with fail
        go_ret2
        exact intErr_mk E.out HB.out
end Go.Proofs.YtocgdibadcmnfaaDoor
