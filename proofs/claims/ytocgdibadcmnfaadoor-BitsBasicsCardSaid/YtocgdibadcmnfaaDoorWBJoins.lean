/- BitsJoins: the walk. -/
import Derived.Test.YtocgdibadcmnfaaDoorBrJoin
namespace Go.Proofs.YtocgdibadcmnfaaDoor
open Go.RowKit Go.Shelf
theorem newBelow {w W : World} (h : Below w.heap.size w W) (u v : Value) (t : TypeId) : Below w.heap.size w (W.alloc (.cells #[u, v] t)) := h.trans ((newBox W u v t).1.mono h.size)
theorem oldBelow {w W : World} {B : Nat} {x y : Value} (h : Below w.heap.size w W) (hx : Res2 W B x y) (hB : w.heap.size ≤ B) (u v : Value) : Below w.heap.size w ((W.setCell ⟨B, 0, none⟩ u).setCell ⟨B, 1, none⟩ v) := h.trans ((oldBox hx u v).1.mono hB)
theorem Res2.old_other {W : World} {B B' : Nat} {x y : Value} (h : Res2 W B x y) (hne : B ≠ B') (u v : Value) : Res2 ((W.setCell ⟨B', 0, none⟩ u).setCell ⟨B', 1, none⟩ v) B x y := (h.set_other hne u).set_other hne v
theorem WordsAt.old {W : World} {p : Option Addr} {ws : List Nat} {B b : Nat} (h : WordsAt W p ws) (hn : NewAt b p) (hB : B < b) (u v : Value) : WordsAt ((W.setCell ⟨B, 0, none⟩ u).setCell ⟨B, 1, none⟩ v) p ws := h.set2 (fun g off e => by have := hn g off e; omega) u v
set_option maxHeartbeats 16000000 in
set_option maxRecDepth 100000 in
theorem joins_walk (n : Int) (p : Option Addr) (cap : Nat) (A : List Nat) (n' : Int) (p' : Option Addr) (cap' : Nat) (B : List Nat) (w : World) (h : WordsAt w p A) (h' : WordsAt w p' B) (he : BEnv w) :
    Calls Tryd.prog 7 #[.agg #[.int .i64 n, .slice p A.length cap], .agg #[.int .i64 n', .slice p' B.length cap']] w (TruePost w) := by
  have CA := Lib.hid (fun W (hW : Below w.heap.size w W) => awake_any W (he.below hW))
  have cfa := fun W => far_any n p A.length cap W h.len
  have cfb := fun W => far_any n' p' B.length cap' W h'.len
  have q1 := fun W (hW : Below w.heap.size w W) => and_any n p cap A n' p' cap' B W (h.below hW) (h'.below hW)
  have q2 := fun W (hW : Below w.heap.size w W) => rand_any n p cap A n' p' cap' B W (h.below hW) (h'.below hW)
  have q3 := fun W (hW : Below w.heap.size w W) => or_any n p cap A n' p' cap' B W (h.below hW) (h'.below hW)
  have q4 := fun W (hW : Below w.heap.size w W) => ror_any n p cap A n' p' cap' B W (h.below hW) (h'.below hW)
  have q5 := fun W (hW : Below w.heap.size w W) => less_any n p cap A n' p' cap' B W (h.below hW) (h'.below hW)
  have q6 := fun W (hW : Below w.heap.size w W) => rless_any n p cap A n' p' cap' B W (h.below hW) (h'.below hW)
  have q7 := fun W (hW : Below w.heap.size w W) => flip_any n p cap A W (h.below hW)
  have q8 := fun W (hW : Below w.heap.size w W) => rFlip_any n p cap A W (h.below hW)
  generalize joinR (fun a b => a && b) n A n' B = r1 at q1 q2
  generalize joinR (fun a b => a || b) n A n' B = r2 at q3 q4
  generalize joinR (fun a b => a && !b) n A n' B = r3 at q5 q6
  generalize flipR n A = r4 at q7 q8
  obtain ⟨⟨m1, L1⟩, y1⟩ := r1
  obtain ⟨⟨m2, L2⟩, y2⟩ := r2
  obtain ⟨⟨m3, L3⟩, y3⟩ := r3
  obtain ⟨⟨m4, L4⟩, y4⟩ := r4
  unfold BtNew at q1 q2 q3 q4 q5 q6 q7 q8
  simp only at q1 q2 q3 q4 q5 q6 q7 q8
  have Q1 := Lib.hid q1; have Q2 := Lib.hid q2; have Q3 := Lib.hid q3; have Q4 := Lib.hid q4; have Q5 := Lib.hid q5; have Q6 := Lib.hid q6; have Q7 := Lib.hid q7; have Q8 := Lib.hid q8
  have A2 := Lib.hid (fun o1 o2 => (alloc2 w o1 o2).1)
  have R1 := Lib.hid (fun (o : Obj) (x y : Value) => (Res2.new w x y 24).below ((Below.refl _ _).alloc (Nat.le_refl _) o))
  have R2 := Lib.hid (fun (o : Obj) (x y : Value) => Res2.new1 w o x y 24)
  have t1 : (y1 != y1) = false := by simp
  have t2 : (y2 != y2) = false := by simp
  have t3 : (y3 == y3) = true := by simp
  have t4 : (y4 == y4) = true := by simp
  clear q1 q2 q3 q4 q5 q6 q7 q8 h h' he
  by_cases hfa : 100 < A.length
  · have hd : decide (100 < A.length) = true := by simpa using hfa
    rw [hd] at cfa
    have CFA := Lib.hid cfa
    clear cfa cfb hd hfa
    go_enter Tryd.func7, Tryd.ntmps7
    go_wp2_with fail
    refine (CFA.out _).mono ?_
    rintro e w1 ⟨rfl, hb⟩
    have HB1 := Lib.hid ((A2.out _ _).trans (hb.mono (A2.out _ _).size))
    clear hb
    go_wp2_with fail
    refine (CA.out _ HB1.out).mono ?_
    rintro e w2 ⟨rfl, hb⟩
    have HB2 := Lib.hid (HB1.out.trans (hb.mono HB1.out.size))
    clear hb
    go_wp2_with fail
    go_ret
    exact ⟨rfl, HB2.out⟩
  · have hd : decide (100 < A.length) = false := by simpa using hfa
    rw [hd] at cfa
    have CFA := Lib.hid cfa
    clear cfa hd hfa
    by_cases hfb : 100 < B.length
    · have hd : decide (100 < B.length) = true := by simpa using hfb
      rw [hd] at cfb
      have CFB := Lib.hid cfb
      clear cfb hd hfb
      go_enter Tryd.func7, Tryd.ntmps7
      go_wp2_with fail
      refine (CFA.out _).mono ?_
      rintro e w1 ⟨rfl, hb⟩
      have HB1 := Lib.hid ((A2.out _ _).trans (hb.mono (A2.out _ _).size))
      have HXB := Lib.hid ((R2.out _ (.int .i64 n') (.slice p' B.length cap')).below hb)
      clear hb
      have d0 := HXB.out.k0; have d1 := HXB.out.k1
      go_wp2_with fail
      refine (CFB.out _).mono ?_
      rintro e w2 ⟨rfl, hb⟩
      have HB2 := Lib.hid (HB1.out.trans (hb.mono HB1.out.size))
      clear hb d0 d1
      go_wp2_with fail
      refine (CA.out _ HB2.out).mono ?_
      rintro e w3 ⟨rfl, hb⟩
      have HB3 := Lib.hid (HB2.out.trans (hb.mono HB2.out.size))
      clear hb
      go_wp2_with fail
      go_ret
      exact ⟨rfl, HB3.out⟩
    · have hd : decide (100 < B.length) = false := by simpa using hfb
      rw [hd] at cfb
      have CFB := Lib.hid cfb
      clear cfb hd hfb
      go_enter Tryd.func7, Tryd.ntmps7
      go_wp2_with fail
      refine (CFA.out _).mono ?_
      rintro e w1 ⟨rfl, hb⟩
      have HB1 := Lib.hid ((A2.out _ _).trans (hb.mono (A2.out _ _).size))
      have HXA := Lib.hid ((R1.out _ (.int .i64 n) (.slice p A.length cap)).below hb)
      have HXB := Lib.hid ((R2.out _ (.int .i64 n') (.slice p' B.length cap')).below hb)
      clear hb
      have d0 := HXB.out.k0; have d1 := HXB.out.k1
      go_wp2_with fail
      refine (CFB.out _).mono ?_
      rintro e w2 ⟨rfl, hb⟩
      have HB2 := Lib.hid (HB1.out.trans (hb.mono HB1.out.size))
      replace HXA := Lib.hid (HXA.out.below hb); replace HXB := Lib.hid (HXB.out.below hb)
      clear hb d0 d1
      have k0A := HXA.out.k0; have k1A := HXA.out.k1; have ltA := HXA.out.lt
      have k0B := HXB.out.k0; have k1B := HXB.out.k1; have ltB := HXB.out.lt
      go_wp2_with fail
      refine (Q1.out _ HB2.out).mono ?_
      rintro e w3 ⟨pX3, cX3, rfl, hwa, hna, hb⟩
      clear k0A k1A ltA k0B k1B ltB
      have hlow : w2.heap.size ≤ w2.heap.size := Nat.le_refl _
      have HNXn := Lib.hid (show NewAt w2.heap.size pX3 from hna)
      clear hna hlow
      replace HXA := Lib.hid (HXA.out.below hb)
      replace HXB := Lib.hid (HXB.out.below hb)
      have HB3 := Lib.hid (HB2.out.trans (hb.mono HB2.out.size))
      clear hb
      have HWX := Lib.hid hwa; have HNX := Lib.hid HNXn.out
      clear hwa HNXn
      have hzX : w.heap.size + 1 < w3.heap.size := HXB.out.lt
      have k0A := HXA.out.k0; have k1A := HXA.out.k1; have ltA := HXA.out.lt
      have k0B := HXB.out.k0; have k1B := HXB.out.k1; have ltB := HXB.out.lt
      go_wp2_with fail
      refine (Q2.out _ (newBelow HB3.out _ _ _)).mono ?_
      rintro e w4 ⟨pY4, cY4, rfl, hwa, hna, hb⟩
      clear k0A k1A ltA k0B k1B ltB
      have HNYn := Lib.hid (show NewAt w3.heap.size pY4 from fun g off e => Nat.le_of_lt (Nat.lt_of_lt_of_le (newBox w3 _ _ _).2.lt (hna g off e)))
      clear hna
      obtain ⟨hk, hnew⟩ := newBox_then hb
      replace HXA := Lib.hid (HXA.out.below hk)
      replace HXB := Lib.hid (HXB.out.below hk)
      replace HWX := Lib.hid (HWX.out.below hk)
      have HXX := Lib.hid hnew
      have HB4 := Lib.hid (HB3.out.trans (hk.mono HB3.out.size))
      clear hb hk hnew
      have hs4X : w3.heap.size < w4.heap.size := HXX.out.lt
      have HWY := Lib.hid hwa; have HNY := Lib.hid HNYn.out
      clear hwa HNYn
      have hzY : w3.heap.size < w4.heap.size := HXX.out.lt
      have k0X := HXX.out.k0; have k1X := HXX.out.k1; have ltX := HXX.out.lt
      go_wp2_with fail
      refine (same_any _ _ _ _ _ _ _ (HWX.out.below (newBox _ _ _ _).1) (HWY.out.below (newBox _ _ _ _).1)).mono ?_
      rintro e w5 ⟨rfl, hb⟩
      clear k0X k1X ltX
      obtain ⟨hk, hnew⟩ := newBox_then hb
      replace HXA := Lib.hid (HXA.out.below hk)
      replace HXB := Lib.hid (HXB.out.below hk)
      replace HXX := Lib.hid (HXX.out.below hk)
      replace HWX := Lib.hid (HWX.out.below hk)
      replace HWY := Lib.hid (HWY.out.below hk)
      have HXY := Lib.hid hnew
      have HB5 := Lib.hid (HB4.out.trans (hk.mono HB4.out.size))
      clear hb hk hnew
      have hs5X : w3.heap.size < w5.heap.size := HXX.out.lt
      have hs5Y : w4.heap.size < w5.heap.size := HXY.out.lt
      have h5Y : w4.heap.size < w5.heap.size := HXY.out.lt
      have k0A := HXA.out.k0; have k1A := HXA.out.k1; have ltA := HXA.out.lt
      have k0B := HXB.out.k0; have k1B := HXB.out.k1; have ltB := HXB.out.lt
      go_wp2_with fail
      refine (Q3.out _ HB5.out).mono ?_
      rintro e w6 ⟨pX6, cX6, rfl, hwa, hna, hb⟩
      clear k0A k1A ltA k0B k1B ltB
      have hlow : w5.heap.size ≤ w5.heap.size := Nat.le_refl _
      have HNXn := Lib.hid (show NewAt w5.heap.size pX6 from hna)
      clear hna hlow
      replace HXA := Lib.hid (HXA.out.below hb)
      replace HXB := Lib.hid (HXB.out.below hb)
      replace HXX := Lib.hid (HXX.out.below hb)
      replace HXY := Lib.hid (HXY.out.below hb)
      have HB6 := Lib.hid (HB5.out.trans (hb.mono HB5.out.size))
      clear hb
      have hs6X : w3.heap.size < w6.heap.size := HXX.out.lt
      have hs6Y : w4.heap.size < w6.heap.size := HXY.out.lt
      have HWX := Lib.hid hwa; have HNX := Lib.hid HNXn.out
      clear hwa HNXn
      have k0A := HXA.out.k0; have k1A := HXA.out.k1; have ltA := HXA.out.lt
      have k0B := HXB.out.k0; have k1B := HXB.out.k1; have ltB := HXB.out.lt
      have k0X := HXX.out.k0; have k1X := HXX.out.k1; have ltX := HXX.out.lt
      have f0X := HXX.out.f0; have f1X := HXX.out.f1
      go_wp2_with fail
      refine (Q4.out _ (oldBelow HB6.out HXX.out (by omega) _ _)).mono ?_
      rintro e w7 ⟨pY7, cY7, rfl, hwa, hna, hb⟩
      clear k0A k1A ltA k0B k1B ltB k0X k1X ltX f0X f1X
      have HNYn := Lib.hid (show NewAt w6.heap.size pY7 from fun g off e => Nat.le_trans (oldBox HXX.out _ _).1.size (hna g off e))
      clear hna
      replace HWX := Lib.hid ((HWX.out.old HNX.out (by omega) _ _).below hb)
      replace HXA := Lib.hid ((HXA.out.old_other (B' := w3.heap.size) (by omega) _ _).below hb)
      replace HXB := Lib.hid ((HXB.out.old_other (B' := w3.heap.size) (by omega) _ _).below hb)
      replace HXY := Lib.hid ((HXY.out.old_other (B' := w3.heap.size) (by omega) _ _).below hb)
      obtain ⟨hk, hnew⟩ := oldBox_then HXX.out hb
      replace HXX := Lib.hid hnew
      have HB7 := Lib.hid (HB6.out.trans (hk.mono (by omega)))
      clear hb hk hnew
      have hs7X : w3.heap.size < w7.heap.size := HXX.out.lt
      have hs7Y : w4.heap.size < w7.heap.size := HXY.out.lt
      have HWY := Lib.hid hwa; have HNY := Lib.hid HNYn.out
      clear hwa HNYn
      have k0X := HXX.out.k0; have k1X := HXX.out.k1; have ltX := HXX.out.lt
      have k0Y := HXY.out.k0; have k1Y := HXY.out.k1; have ltY := HXY.out.lt
      have f0Y := HXY.out.f0; have f1Y := HXY.out.f1
      go_wp2_with fail
      refine (same_any _ _ _ _ _ _ _ (HWX.out.old HNX.out (by omega) _ _) (HWY.out.old HNY.out (by omega) _ _)).mono ?_
      rintro e w8 ⟨rfl, hb⟩
      clear k0X k1X ltX k0Y k1Y ltY f0Y f1Y
      replace HWX := Lib.hid ((HWX.out.old HNX.out (by omega) _ _).below hb)
      replace HWY := Lib.hid ((HWY.out.old HNY.out (by omega) _ _).below hb)
      replace HXA := Lib.hid ((HXA.out.old_other (B' := w4.heap.size) (by omega) _ _).below hb)
      replace HXB := Lib.hid ((HXB.out.old_other (B' := w4.heap.size) (by omega) _ _).below hb)
      replace HXX := Lib.hid ((HXX.out.old_other (B' := w4.heap.size) (by omega) _ _).below hb)
      obtain ⟨hk, hnew⟩ := oldBox_then HXY.out hb
      replace HXY := Lib.hid hnew
      have HB8 := Lib.hid (HB7.out.trans (hk.mono (by omega)))
      clear hb hk hnew
      have hs8X : w3.heap.size < w8.heap.size := HXX.out.lt
      have hs8Y : w4.heap.size < w8.heap.size := HXY.out.lt
      have h8Y : w4.heap.size < w8.heap.size := HXY.out.lt
      have k0A := HXA.out.k0; have k1A := HXA.out.k1; have ltA := HXA.out.lt
      have k0B := HXB.out.k0; have k1B := HXB.out.k1; have ltB := HXB.out.lt
      go_wp2_with fail
      refine (Q5.out _ HB8.out).mono ?_
      rintro e w9 ⟨pX9, cX9, rfl, hwa, hna, hb⟩
      clear k0A k1A ltA k0B k1B ltB
      have hlow : w8.heap.size ≤ w8.heap.size := Nat.le_refl _
      have HNXn := Lib.hid (show NewAt w8.heap.size pX9 from hna)
      clear hna hlow
      replace HXA := Lib.hid (HXA.out.below hb)
      replace HXB := Lib.hid (HXB.out.below hb)
      replace HXX := Lib.hid (HXX.out.below hb)
      replace HXY := Lib.hid (HXY.out.below hb)
      have HB9 := Lib.hid (HB8.out.trans (hb.mono HB8.out.size))
      clear hb
      have hs9X : w3.heap.size < w9.heap.size := HXX.out.lt
      have hs9Y : w4.heap.size < w9.heap.size := HXY.out.lt
      have HWX := Lib.hid hwa; have HNX := Lib.hid HNXn.out
      clear hwa HNXn
      have k0A := HXA.out.k0; have k1A := HXA.out.k1; have ltA := HXA.out.lt
      have k0B := HXB.out.k0; have k1B := HXB.out.k1; have ltB := HXB.out.lt
      have k0X := HXX.out.k0; have k1X := HXX.out.k1; have ltX := HXX.out.lt
      have f0X := HXX.out.f0; have f1X := HXX.out.f1
      go_wp2_with fail
      refine (Q6.out _ (oldBelow HB9.out HXX.out (by omega) _ _)).mono ?_
      rintro e w10 ⟨pY10, cY10, rfl, hwa, hna, hb⟩
      clear k0A k1A ltA k0B k1B ltB k0X k1X ltX f0X f1X
      have HNYn := Lib.hid (show NewAt w9.heap.size pY10 from fun g off e => Nat.le_trans (oldBox HXX.out _ _).1.size (hna g off e))
      clear hna
      replace HWX := Lib.hid ((HWX.out.old HNX.out (by omega) _ _).below hb)
      replace HXA := Lib.hid ((HXA.out.old_other (B' := w3.heap.size) (by omega) _ _).below hb)
      replace HXB := Lib.hid ((HXB.out.old_other (B' := w3.heap.size) (by omega) _ _).below hb)
      replace HXY := Lib.hid ((HXY.out.old_other (B' := w3.heap.size) (by omega) _ _).below hb)
      obtain ⟨hk, hnew⟩ := oldBox_then HXX.out hb
      replace HXX := Lib.hid hnew
      have HB10 := Lib.hid (HB9.out.trans (hk.mono (by omega)))
      clear hb hk hnew
      have hs10X : w3.heap.size < w10.heap.size := HXX.out.lt
      have hs10Y : w4.heap.size < w10.heap.size := HXY.out.lt
      have HWY := Lib.hid hwa; have HNY := Lib.hid HNYn.out
      clear hwa HNYn
      have k0A := HXA.out.k0; have k1A := HXA.out.k1; have ltA := HXA.out.lt
      have k0Y := HXY.out.k0; have k1Y := HXY.out.k1; have ltY := HXY.out.lt
      have f0Y := HXY.out.f0; have f1Y := HXY.out.f1
      go_wp2_with fail
      refine (Q7.out _ (oldBelow HB10.out HXY.out (by omega) _ _)).mono ?_
      rintro e w11 ⟨pU11, cU11, rfl, hwa, hna, hb⟩
      clear k0A k1A ltA k0Y k1Y ltY f0Y f1Y
      have HNUn := Lib.hid (show NewAt w10.heap.size pU11 from fun g off e => Nat.le_trans (oldBox HXY.out _ _).1.size (hna g off e))
      clear hna
      replace HWX := Lib.hid ((HWX.out.old HNX.out (by omega) _ _).below hb)
      replace HWY := Lib.hid ((HWY.out.old HNY.out (by omega) _ _).below hb)
      replace HXA := Lib.hid ((HXA.out.old_other (B' := w4.heap.size) (by omega) _ _).below hb)
      replace HXB := Lib.hid ((HXB.out.old_other (B' := w4.heap.size) (by omega) _ _).below hb)
      replace HXX := Lib.hid ((HXX.out.old_other (B' := w4.heap.size) (by omega) _ _).below hb)
      obtain ⟨hk, hnew⟩ := oldBox_then HXY.out hb
      replace HXY := Lib.hid hnew
      have HB11 := Lib.hid (HB10.out.trans (hk.mono (by omega)))
      clear hb hk hnew
      have hs11X : w3.heap.size < w11.heap.size := HXX.out.lt
      have hs11Y : w4.heap.size < w11.heap.size := HXY.out.lt
      have HWU := Lib.hid hwa; have HNU := Lib.hid HNUn.out
      clear hwa HNUn
      have k0A := HXA.out.k0; have k1A := HXA.out.k1; have ltA := HXA.out.lt
      go_wp2_with fail
      refine (Q8.out _ (newBelow HB11.out _ _ _)).mono ?_
      rintro e w12 ⟨pV12, cV12, rfl, hwa, hna, hb⟩
      clear k0A k1A ltA
      have HNVn := Lib.hid (show NewAt w11.heap.size pV12 from fun g off e => Nat.le_of_lt (Nat.lt_of_lt_of_le (newBox w11 _ _ _).2.lt (hna g off e)))
      clear hna
      obtain ⟨hk, hnew⟩ := newBox_then hb
      replace HXA := Lib.hid (HXA.out.below hk)
      replace HXB := Lib.hid (HXB.out.below hk)
      replace HXX := Lib.hid (HXX.out.below hk)
      replace HXY := Lib.hid (HXY.out.below hk)
      replace HWX := Lib.hid (HWX.out.below hk)
      replace HWY := Lib.hid (HWY.out.below hk)
      replace HWU := Lib.hid (HWU.out.below hk)
      have HXU := Lib.hid hnew
      have HB12 := Lib.hid (HB11.out.trans (hk.mono HB11.out.size))
      clear hb hk hnew
      have hs12X : w3.heap.size < w12.heap.size := HXX.out.lt
      have hs12Y : w4.heap.size < w12.heap.size := HXY.out.lt
      have hs12U : w11.heap.size < w12.heap.size := HXU.out.lt
      have HWV := Lib.hid hwa; have HNV := Lib.hid HNVn.out
      clear hwa HNVn
      have k0X := HXX.out.k0; have k1X := HXX.out.k1; have ltX := HXX.out.lt
      have k0Y := HXY.out.k0; have k1Y := HXY.out.k1; have ltY := HXY.out.lt
      have k0U := HXU.out.k0; have k1U := HXU.out.k1; have ltU := HXU.out.lt
      go_wp2_with fail
      refine (same_any _ _ _ _ _ _ _ (HWX.out.below (newBox _ _ _ _).1) (HWY.out.below (newBox _ _ _ _).1)).mono ?_
      rintro e w13 ⟨rfl, hb⟩
      clear k0X k1X ltX k0Y k1Y ltY k0U k1U ltU
      obtain ⟨hk, hnew⟩ := newBox_then hb
      replace HXA := Lib.hid (HXA.out.below hk)
      replace HXB := Lib.hid (HXB.out.below hk)
      replace HXX := Lib.hid (HXX.out.below hk)
      replace HXY := Lib.hid (HXY.out.below hk)
      replace HXU := Lib.hid (HXU.out.below hk)
      replace HWX := Lib.hid (HWX.out.below hk)
      replace HWY := Lib.hid (HWY.out.below hk)
      replace HWU := Lib.hid (HWU.out.below hk)
      replace HWV := Lib.hid (HWV.out.below hk)
      have HXV := Lib.hid hnew
      have HB13 := Lib.hid (HB12.out.trans (hk.mono HB12.out.size))
      clear hb hk hnew
      have hs13X : w3.heap.size < w13.heap.size := HXX.out.lt
      have hs13Y : w4.heap.size < w13.heap.size := HXY.out.lt
      have hs13U : w11.heap.size < w13.heap.size := HXU.out.lt
      have k0U := HXU.out.k0; have k1U := HXU.out.k1; have ltU := HXU.out.lt
      have k0V := HXV.out.k0; have k1V := HXV.out.k1; have ltV := HXV.out.lt
      go_wp2_with fail
      refine (same_any _ _ _ _ _ _ _ HWU.out HWV.out).mono ?_
      rintro e w14 ⟨rfl, hb⟩
      clear k0U k1U ltU k0V k1V ltV
      replace HXA := Lib.hid (HXA.out.below hb)
      replace HXB := Lib.hid (HXB.out.below hb)
      replace HXX := Lib.hid (HXX.out.below hb)
      replace HXY := Lib.hid (HXY.out.below hb)
      replace HXU := Lib.hid (HXU.out.below hb)
      replace HXV := Lib.hid (HXV.out.below hb)
      replace HWX := Lib.hid (HWX.out.below hb)
      replace HWY := Lib.hid (HWY.out.below hb)
      replace HWU := Lib.hid (HWU.out.below hb)
      replace HWV := Lib.hid (HWV.out.below hb)
      have HB14 := Lib.hid (HB13.out.trans (hb.mono HB13.out.size))
      clear hb
      have hs14X : w3.heap.size < w14.heap.size := HXX.out.lt
      have hs14Y : w4.heap.size < w14.heap.size := HXY.out.lt
      have hs14U : w11.heap.size < w14.heap.size := HXU.out.lt
      go_wp2_with fail
      refine (CA.out _ HB14.out).mono ?_
      rintro e w15 ⟨rfl, hb⟩
      have HB15 := Lib.hid (HB14.out.trans (hb.mono HB14.out.size))
      clear hb
      go_wp2_with fail
      go_ret
      exact ⟨rfl, HB15.out⟩
end Go.Proofs.YtocgdibadcmnfaaDoor
