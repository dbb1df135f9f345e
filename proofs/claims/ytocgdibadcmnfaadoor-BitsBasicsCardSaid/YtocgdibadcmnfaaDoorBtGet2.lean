/- bits: Get. -/
import Derived.Test.YtocgdibadcmnfaaDoorBtGet
namespace Go.Proofs.YtocgdibadcmnfaaDoor
open Go.RowKit

def getR (n : Int) (ws : List Nat) (i : Int) : Bool × Int := if checkR n ws ≠ 0 then (false, checkR n ws) else if i < 0 ∨ n ≤ i then (false, 7) else (bitN ws i.toNat, 0)
def BoolErr (r : Bool × Int) (w : World) (e : Ending) (w' : World) : Prop := e = .returned (.tuple #[.bool r.1, .int .i64 r.2]) ∧ Below w.heap.size w w'
theorem boolErr_mk {r : Bool × Int} {a : Bool} {c : Int} {w w' : World} (h : r = (a, c)) (hb : Below w.heap.size w w') : BoolErr r w (.returned (.tuple #[.bool a, .int .i64 c])) w' := ⟨by rw [h], hb⟩
theorem mask1 (x i : Nat) (hx : x < 2 ^ 64) : ((x &&& maskR (i / 64) i (i + 1)) ≠ 0) ↔ x.testBit (i % 64) = true := by
  have hb : ∀ j, (x &&& maskR (i / 64) i (i + 1)).testBit j = (x.testBit j && decide (j = i % 64)) := fun j => by
    rw [Nat.testBit_and, mask_bit]
    congr 1
    apply decide_eq_decide.2; omega
  constructor
  · intro h
    obtain ⟨j, hj, hbj⟩ := ne_zero_bit h (Nat.and_lt_two_pow _ (mask_lt _ _ _))
    rw [hb] at hbj
    simp only [Bool.and_eq_true, decide_eq_true_eq] at hbj
    rw [← hbj.2]; exact hbj.1
  · intro h h0
    have := hb (i % 64)
    rw [h0, h] at this
    simp at this
theorem bitN_in {ws : List Nat} {i : Nat} (h : i / 64 < ws.length) : bitN ws i = ws[i / 64].testBit (i % 64) := by
  unfold bitN; rw [List.getElem?_eq_getElem h]; rfl

set_option maxHeartbeats 1000000 in
set_option maxRecDepth 100000 in
theorem get_any (n : Int) (p : Option Addr) (cap : Nat) (ws : List Nat) (i : Int) (w : World) (h : WordsAt w p ws) :
    Calls Tryd.prog 17 #[.agg #[.int .i64 n, .slice p ws.length cap], .int .i64 i] w (BoolErr (getR n ws i) w) := by
  have ck := fun W (hW : Below w.heap.size w W) => check_any n p cap ws W (h.below hW)
  have e : getR n ws i = if checkR n ws ≠ 0 then (false, checkR n ws) else if i < 0 ∨ n ≤ i then (false, 7) else (bitN ws i.toNat, 0) := rfl
  have hok := checkR_ok (n := n) h.lt
  have HW := Lib.hid h
  generalize checkR n ws = c at ck e hok
  generalize getR n ws i = r at e
  have CK := Lib.hid ck; clear ck h
  by_cases hc : c ≠ 0
  · rw [if_pos hc] at e
    obtain ⟨t1, t2⟩ := neq0 hc
    have E := Lib.hid e; clear e hc hok
    go_enter Tryd.func17, Tryd.ntmps17
    go_wp2_with (go_at_call 19; refine (CK.out _ ((Below.refl _ _).alloc (Nat.le_refl _) _)).mono ?_; rintro e w1 ⟨rfl, hb⟩; have HB := Lib.hid (boxB hb); clear hb)
    go_ret2
    exact boolErr_mk E.out HB.out
  · rw [if_neg hc] at e
    obtain rfl : c = 0 := Classical.not_not.1 hc
    obtain ⟨hn0, hv⟩ := hok rfl
    have HV := Lib.hid hv
    clear hc hv hok
    by_cases h1 : i < 0
    · rw [if_pos (.inl h1)] at e
      have E := Lib.hid e; clear e
      go_enter Tryd.func17, Tryd.ntmps17
      go_wp2_with (go_at_call 19; refine (CK.out _ ((Below.refl _ _).alloc (Nat.le_refl _) _)).mono ?_; rintro e w1 ⟨rfl, hb⟩; have HB := Lib.hid (boxB hb); obtain ⟨hcell, hfz⟩ := bcell hb; clear hb)
      go_ret2
      exact boolErr_mk E.out HB.out
    · by_cases h2 : n ≤ i
      · rw [if_pos (.inr h2)] at e
        have E := Lib.hid e; clear e
        go_enter Tryd.func17, Tryd.ntmps17
        go_wp2_with (go_at_call 19; refine (CK.out _ ((Below.refl _ _).alloc (Nat.le_refl _) _)).mono ?_; rintro e w1 ⟨rfl, hb⟩; have HB := Lib.hid (boxB hb); obtain ⟨hcell, hfz⟩ := bcell hb; clear hb)
        go_ret2
        exact boolErr_mk E.out HB.out
      · rw [if_neg (by omega)] at e
        obtain ⟨k, rfl⟩ : ∃ k : Nat, i = (k : Int) := ⟨i.toNat, by omega⟩
        obtain ⟨m, rfl⟩ : ∃ m : Nat, n = (m : Int) := ⟨n.toNat, by omega⟩
        rw [Int.toNat_natCast] at e
        have hkm : k < m := by omega
        have hm := HV.out.le
        have hl := HV.out.len
        rw [Int.toNat_natCast] at hm hl
        have hk : k / 64 < ws.length := by rw [hl]; unfold lenW; omega
        obtain ⟨g, off, rfl, hg, hcw⟩ := HW.out.at_ (by omega)
        have c0 := hcw _ hk
        have hx := word_in HW.out.lt _ hk
        rw [bitN_in hk] at e
        have hm1 := mask1 ws[k / 64] k hx
        have e3 := u64_and_nat ws[k / 64] (maskR (k / 64) k (k + 1)) hx (mask_lt _ _ _)
        have cm := fun W => mask_any (k / 64) k (k + 1) (by omega) (by omega) (by omega) W
        have e1 : ((k : Int).tdiv 64) = ((k / 64 : Nat) : Int) := by rw [Int.tdiv_eq_ediv_of_nonneg (by omega)]; omega
        have e2 : IntKind.i64.wrap ((k : Int) + 1) = ((k + 1 : Nat) : Int) := IntWalk.i64_in _ (by omega)
        have e4 : IntKind.i64.wrap ((k / 64 : Nat) : Int) = ((k / 64 : Nat) : Int) := IntWalk.i64_in _ (by omega)
        have i1 : (0 : Int) ≤ ((k / 64 : Nat) : Int) := by omega
        have i2 : ((k / 64 : Nat) : Int) < ws.length := by omega
        generalize k / 64 = q at hk c0 hx e hm1 e3 cm e1 e4 i1 i2
        generalize ws[q] = x at c0 hx e hm1 e3
        generalize maskR q k (k + 1) = M at hm1 e3 cm
        have hfin : ((bits .and .u64 (x : Int) (M : Int)) != 0) = x.testBit (k % 64) := by
          rw [e3, Bool.eq_iff_iff, ← hm1, bne_iff_ne]
          constructor <;> intro hh h0 <;> exact hh (by omega)
        have E := Lib.hid e; have CM := Lib.hid cm; have HF := Lib.hid hfin
        clear e cm hfin hm1 e3 hx hcw hl hkm
        go_enter Tryd.func17, Tryd.ntmps17
        go_wp2_with (go_at_call 19; refine (CK.out _ ((Below.refl _ _).alloc (Nat.le_refl _) _)).mono ?_; rintro e w1 ⟨rfl, hb⟩; have HB := Lib.hid (boxB hb); obtain ⟨hcell, hfz⟩ := bcell hb; clear hb)
        go_quiet ((go_at_call 53; exact Calls.quiet_of_same ((CM.out _).mono fun _ _ ⟨a, b⟩ => ⟨a, b.symm⟩)))
        go_wp2_with fail
        go_ret2
        exact boolErr_mk (by rw [E.out, HF.out]) (HB.out.trans (drewB _ _ _))
end Go.Proofs.YtocgdibadcmnfaaDoor
