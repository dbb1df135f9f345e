/- BitsBasics: the walk. -/
import Derived.Test.YtocgdibadcmnfaaDoorBrSet
import Derived.Test.YtocgdibadcmnfaaDoorWBJoins
import Derived.Test.YtocgdibadcmnfaaDoorWBFinds
namespace Go.Proofs.YtocgdibadcmnfaaDoor
open Go.RowKit Go.Shelf
theorem addr_of {W : World} {a b : Addr} {x y : Value} (h1 : W.cell? a = some x) (h2 : W.cell? b = some y) (hne : x ≠ y) : a ≠ b := fun e => by
  rw [e, h2] at h1; exact hne (Option.some.inj h1).symm
/-- Words stay where a variable that holds bits is stored to. -/
theorem WordsAt.oldT {W : World} {p q : Option Addr} {ws : List Nat} {B l c : Nat} {n : Int} (h : WordsAt W p ws) (hx : Res2 W B (.int .i64 n) (.slice q l c)) (u v : Value) : WordsAt ((W.setCell ⟨B, 0, none⟩ u).setCell ⟨B, 1, none⟩ v) p ws :=
  ⟨h.len, h.lt, fun h0 => by
    obtain ⟨g, off, e, hg, hc⟩ := h.at_ h0
    refine ⟨g, off, e, by simpa [World.setCell] using hg, fun j hj => ?_⟩
    have h1 := addr_of (hc j hj) hx.k0 (by intro e; cases e)
    have h2 := addr_of (hc j hj) hx.k1 (by intro e; cases e)
    rw [World.cell?_setCell_other _ _ _ _ (fun e => h2 e.symm), World.cell?_setCell_other _ _ _ _ (fun e => h1 e.symm)]
    exact hc j hj⟩
theorem Res3.old_other {W : World} {B B' : Nat} {x y z : Value} (h : Res3 W B x y z) (hne : B ≠ B') (u v : Value) : Res3 ((W.setCell ⟨B', 0, none⟩ u).setCell ⟨B', 1, none⟩ v) B x y z := by
  have key : ∀ i, ((W.setCell ⟨B', 0, none⟩ u).setCell ⟨B', 1, none⟩ v).cell? ⟨B, i, none⟩ = W.cell? ⟨B, i, none⟩ := fun i => by
    rw [World.cell?_setCell_other _ _ _ _ (by simp [hne]), World.cell?_setCell_other _ _ _ _ (by simp [hne])]
  exact ⟨(key 0).trans h.k0, (key 1).trans h.k1, (key 2).trans h.k2, by have := h.lt; simpa [World.setCell] using this⟩
theorem six_cells {W : World} {B B' B'' : Nat} {x y x' y' x'' y'' : Value} (h : Res2 W B x y) (h' : Res2 W B' x' y') (h'' : Res2 W B'' x'' y'') : W.drew.cell? ⟨B, 0, none⟩ = some x ∧ W.drew.cell? ⟨B, 1, none⟩ = some y ∧ W.drew.cell? ⟨B', 0, none⟩ = some x' ∧ W.drew.cell? ⟨B', 1, none⟩ = some y' ∧ W.drew.cell? ⟨B'', 0, none⟩ = some x'' ∧ W.drew.cell? ⟨B'', 1, none⟩ = some y'' := ⟨h.k0, h.k1, h'.k0, h'.k1, h''.k0, h''.k1⟩
theorem keep12 {W W' : World} {a b c d e f : Addr} {X Y Z U V T : Value} (hb : Below W.heap.size W W') (hS : W.cell? a = some X ∧ W.cell? b = some Y ∧ W.cell? c = some Z ∧ W.cell? d = some U ∧ W.cell? e = some V ∧ W.cell? f = some T) : W'.cell? a = some X ∧ W'.cell? b = some Y ∧ W'.cell? c = some Z ∧ W'.cell? d = some U ∧ W'.cell? e = some V ∧ W'.cell? f = some T := by
  have k : ∀ {q v}, W.cell? q = some v → W'.cell? q = some v := fun h => (hb.cell (World.block_lt_of_cell? W _ h)).trans h
  exact ⟨k hS.1, k hS.2.1, k hS.2.2.1, k hS.2.2.2.1, k hS.2.2.2.2.1, k hS.2.2.2.2.2⟩
def FalseAt (w1 : World) (a : Value) (W : World) : Prop := a = .bool false ∧ Below w1.heap.size w1 W
set_option maxHeartbeats 16000000 in
set_option maxRecDepth 100000 in
theorem basics_walk (n : Int) (p : Option Addr) (cap : Nat) (ws : List Nat) (fr tw : Int) (on : Bool) (i : Int) (w : World) (h : WordsAt w p ws) (he : BEnv w) :
    Calls Tryd.prog 3 #[.agg #[.int .i64 n, .slice p ws.length cap], .agg #[.int .i64 fr, .int .i64 tw, .bool on], .int .i64 i] w (TruePost w) := by
  have CA := Lib.hid (fun W (hW : Below w.heap.size w W) => awake_any W (he.below hW))
  have cf := fun W => far_any n p ws.length cap W h.len
  have q1 := fun W (_ : Below w.heap.size w W) => new_any fr on W
  have q2 := fun W (_ : Below w.heap.size w W) => (rNew_any fr on W).mono fun _ _ h => BtNew.post h
  have q3 := fun W (hW : Below w.heap.size w W) => get_any n p cap ws i W (h.below hW)
  have q4 := fun W (hW : Below w.heap.size w W) => rGet_any n p cap ws i W (h.below hW)
  have q5 := fun W (hW : Below w.heap.size w W) => set_any n p cap ws fr tw on W (h.below hW)
  have q6 := fun W (hW : Below w.heap.size w W) => (rSet_any n p cap ws fr tw on W (h.below hW)).mono fun _ _ h => BtNew.post h
  have q7 := fun W (hW : Below w.heap.size w W) => count_any n p cap ws fr tw W (h.below hW)
  have q8 := fun W (hW : Below w.heap.size w W) => rCount_any n p cap ws fr tw W (h.below hW)
  have q9 := fun W (hW : Below w.heap.size w W) => check_any n p cap ws W (h.below hW)
  have q10 := fun W (hW : Below w.heap.size w W) => rcheck_any n p cap ws W (h.below hW)
  generalize newR fr on = r1 at q1 q2
  generalize getR n ws i = r2 at q3 q4
  generalize setR n ws fr tw on = r3 at q5 q6
  generalize countR n ws fr tw = r4 at q7 q8
  generalize checkR n ws = r5 at q9 q10
  obtain ⟨⟨m1, L1⟩, y1⟩ := r1
  obtain ⟨x2, y2⟩ := r2
  obtain ⟨⟨m3, L3⟩, y3⟩ := r3
  obtain ⟨x4, y4⟩ := r4
  unfold BtPost at q1 q2 q5 q6
  unfold BoolErr at q3 q4
  unfold IntErr at q7 q8
  simp only at q1 q2 q3 q4 q5 q6 q7 q8
  have Q1 := Lib.hid q1; have Q2 := Lib.hid q2; have Q3 := Lib.hid q3; have Q4 := Lib.hid q4; have Q5 := Lib.hid q5; have Q6 := Lib.hid q6; have Q7 := Lib.hid q7; have Q8 := Lib.hid q8; have Q9 := Lib.hid q9; have Q10 := Lib.hid q10
  have FB := Lib.hid (fun a0 a1 x y z => find_boxes w a0 a1 x y z)
  have t1 : (y1 != y1) = false := by simp
  have t2 : (x2 != x2) = false := by simp
  have t3 : (y2 != y2) = false := by simp
  have t4 : (y3 == y3) = true := by simp
  have t5 : (x4 == x4) = true := by simp
  have t6 : (y4 == y4) = true := by simp
  have t7 : (r5 != r5) = false := by simp
  clear q1 q2 q3 q4 q5 q6 q7 q8 q9 q10 h he
  by_cases hfar : 100 < ws.length
  · have hd : decide (100 < ws.length) = true := by simpa using hfar
    rw [hd] at cf
    have CF := Lib.hid cf
    clear cf hd hfar
    go_enter Tryd.func3, Tryd.ntmps3
    go_wp2_with fail
    refine (CF.out _).mono ?_
    rintro e w1 ⟨rfl, hb⟩
    have HB1 := Lib.hid ((FB.out _ _ _ _ _).1.trans (hb.mono (FB.out _ _ _ _ _).1.size))
    clear hb
    go_wp2_with fail
    refine (CA.out _ HB1.out).mono ?_
    rintro e w2 ⟨rfl, hb⟩
    have HB2 := Lib.hid (HB1.out.trans (hb.mono HB1.out.size))
    clear hb
    go_wp2_with fail
    go_ret
    exact ⟨rfl, HB2.out⟩
  · have hd : decide (100 < ws.length) = false := by simpa using hfar
    rw [hd] at cf
    have CF := Lib.hid cf
    clear cf hd hfar
    go_enter Tryd.func3, Tryd.ntmps3
    go_wp2_with fail
    refine (CF.out _).mono ?_
    rintro e w1 ⟨rfl, hb⟩
    have HB1 := Lib.hid ((FB.out _ _ _ _ _).1.trans (hb.mono (FB.out _ _ _ _ _).1.size))
    obtain ⟨_, z1, z2⟩ := FB.out (.int .i64 n) (.slice p ws.length cap) (.int .i64 fr) (.int .i64 tw) (.bool on)
    have HXB := Lib.hid (z1.below hb); have HP := Lib.hid (z2.under hb z2.lt)
    clear hb z1 z2
    have xk0 := HP.out.k0; have xk1 := HP.out.k1; have xk2 := HP.out.k2; have xlt := HP.out.lt
    go_wp2_with fail
    refine (Q1.out _ HB1.out).mono ?_
    rintro e w2 ⟨pA2, cA2, rfl, hwa, hb⟩
    clear xk0 xk1 xk2 xlt
    replace HXB := Lib.hid (HXB.out.below hb)
    replace HP := Lib.hid (HP.out.under hb HP.out.lt)
    have HB2 := Lib.hid (HB1.out.trans (hb.mono HB1.out.size))
    clear hb
    have HWA := Lib.hid hwa
    clear hwa
    have hzA : w.heap.size + 1 < w2.heap.size := HP.out.lt
    have xk0 := HP.out.k0; have xk1 := HP.out.k1; have xk2 := HP.out.k2; have xlt := HP.out.lt
    go_wp2_with fail
    refine (Q2.out _ (newBelow HB2.out _ _ _)).mono ?_
    rintro e w3 ⟨pC3, cC3, rfl, hwa, hb⟩
    clear xk0 xk1 xk2 xlt
    obtain ⟨hk, hnew⟩ := newBox_then hb
    replace HXB := Lib.hid (HXB.out.below hk)
    replace HP := Lib.hid (HP.out.under hk HP.out.lt)
    replace HWA := Lib.hid (HWA.out.below hk)
    have HXA := Lib.hid hnew
    have HB3 := Lib.hid (HB2.out.trans (hk.mono HB2.out.size))
    clear hb hk hnew
    have hs3A : w2.heap.size < w3.heap.size := HXA.out.lt
    have HWC := Lib.hid hwa
    clear hwa
    have hzC : w2.heap.size < w3.heap.size := HXA.out.lt
    have k0B := HXB.out.k0; have k1B := HXB.out.k1; have ltB := HXB.out.lt
    go_wp2_with fail
    refine (Q3.out _ (newBelow HB3.out _ _ _)).mono ?_
    rintro e w4 ⟨rfl, hb⟩
    clear k0B k1B ltB
    obtain ⟨hk, hnew⟩ := newBox_then hb
    replace HXB := Lib.hid (HXB.out.below hk)
    replace HXA := Lib.hid (HXA.out.below hk)
    replace HP := Lib.hid (HP.out.under hk HP.out.lt)
    replace HWA := Lib.hid (HWA.out.below hk)
    replace HWC := Lib.hid (HWC.out.below hk)
    have HXC := Lib.hid hnew
    have HB4 := Lib.hid (HB3.out.trans (hk.mono HB3.out.size))
    clear hb hk hnew
    have hs4A : w2.heap.size < w4.heap.size := HXA.out.lt
    have hs4C : w3.heap.size < w4.heap.size := HXC.out.lt
    have k0B := HXB.out.k0; have k1B := HXB.out.k1; have ltB := HXB.out.lt
    go_wp2_with fail
    refine (Q4.out _ HB4.out).mono ?_
    rintro e w5 ⟨rfl, hb⟩
    clear k0B k1B ltB
    replace HXB := Lib.hid (HXB.out.below hb)
    replace HXA := Lib.hid (HXA.out.below hb)
    replace HXC := Lib.hid (HXC.out.below hb)
    replace HP := Lib.hid (HP.out.under hb HP.out.lt)
    replace HWA := Lib.hid (HWA.out.below hb)
    replace HWC := Lib.hid (HWC.out.below hb)
    have HB5 := Lib.hid (HB4.out.trans (hb.mono HB4.out.size))
    clear hb
    have hs5A : w2.heap.size < w5.heap.size := HXA.out.lt
    have hs5C : w3.heap.size < w5.heap.size := HXC.out.lt
    -- the drawn region of calls
    have hs0 := six_cells HXB.out HXA.out HXC.out
    have hbd := Lib.hid (show Below w5.heap.size w5 w5.drew from (Below.refl _ _).drew)
    have QS := Lib.hid (fun W (hW : Below w5.heap.size w5 W) => same_any (m1 : Int) L1 pA2 pC3 cA2 cC3 W (HWA.out.below hW) (HWC.out.below hW))
    go_upto_region 7 with fail
    go_cut [73] (fun a wx => FalseAt w5 a wx)
    case first =>
      go_region_held3 (fun W => W.cell? ⟨w.heap.size, 0, none⟩ = some (.int .i64 n) ∧ W.cell? ⟨w.heap.size, 1, none⟩ = some (.slice p ws.length cap) ∧ W.cell? ⟨w2.heap.size, 0, none⟩ = some (.int .i64 (m1 : Int)) ∧ W.cell? ⟨w2.heap.size, 1, none⟩ = some (.slice pA2 L1.length cA2) ∧ W.cell? ⟨w3.heap.size, 0, none⟩ = some (.int .i64 (m1 : Int)) ∧ W.cell? ⟨w3.heap.size, 1, none⟩ = some (.slice pC3 L1.length cC3)) (first | exact hs0 | exact keep12 hbz (by assumption)) (first
        | (go_at_call 19; refine Calls.mono (Q9.out _ ?hb) ?_; (case hb => exact HB5.out.trans (hbd.out.mono HB5.out.size)); rintro e wz ⟨rfl, hbz⟩; have hbd := Lib.hid (below_next hbd.out hbz))
        | (go_at_call 20; refine Calls.mono (Q10.out _ ?hb) ?_; (case hb => exact HB5.out.trans (hbd.out.mono HB5.out.size)); rintro e wz ⟨rfl, hbz⟩; have hbd := Lib.hid (below_next hbd.out hbz))
        | (go_at_call 21; refine Calls.mono (QS.out _ hbd.out) ?_; rintro e wz ⟨rfl, hbz⟩; have hbd := Lib.hid (below_next hbd.out hbz)))
      all_goals
        go_wp2_with fail
        go_meet
        exact ⟨rfl, hbd.out⟩
    case rest =>
    obtain ⟨rfl, hb⟩ := hcut
    rename World => w6
    clear hs0 hbd
    replace HXB := Lib.hid (HXB.out.below hb)
    replace HXA := Lib.hid (HXA.out.below hb)
    replace HXC := Lib.hid (HXC.out.below hb)
    replace HP := Lib.hid (HP.out.under hb HP.out.lt)
    replace HWA := Lib.hid (HWA.out.below hb)
    replace HWC := Lib.hid (HWC.out.below hb)
    have HB6 := Lib.hid (HB5.out.trans (hb.mono HB5.out.size))
    clear hb
    have hs6A : w2.heap.size < w6.heap.size := HXA.out.lt
    have hs6C : w3.heap.size < w6.heap.size := HXC.out.lt
    have k0B := HXB.out.k0; have k1B := HXB.out.k1; have ltB := HXB.out.lt
    have xk0 := HP.out.k0; have xk1 := HP.out.k1; have xk2 := HP.out.k2; have xlt := HP.out.lt
    go_wp2_with fail
    refine (Q5.out _ HB6.out).mono ?_
    rintro e w7 ⟨pA7, cA7, rfl, hwa, hb⟩
    clear k0B k1B ltB xk0 xk1 xk2 xlt
    replace HXB := Lib.hid (HXB.out.below hb)
    replace HXA := Lib.hid (HXA.out.below hb)
    replace HXC := Lib.hid (HXC.out.below hb)
    replace HP := Lib.hid (HP.out.under hb HP.out.lt)
    have HB7 := Lib.hid (HB6.out.trans (hb.mono HB6.out.size))
    clear hb
    have hs7A : w2.heap.size < w7.heap.size := HXA.out.lt
    have hs7C : w3.heap.size < w7.heap.size := HXC.out.lt
    have HWA := Lib.hid hwa
    clear hwa
    have k0B := HXB.out.k0; have k1B := HXB.out.k1; have ltB := HXB.out.lt
    have xk0 := HP.out.k0; have xk1 := HP.out.k1; have xk2 := HP.out.k2; have xlt := HP.out.lt
    have k0A := HXA.out.k0; have k1A := HXA.out.k1; have ltA := HXA.out.lt
    have f0A := HXA.out.f0; have f1A := HXA.out.f1
    go_wp2_with fail
    refine (Q6.out _ (oldBelow HB7.out HXA.out (by omega) _ _)).mono ?_
    rintro e w8 ⟨pC8, cC8, rfl, hwa, hb⟩
    clear k0B k1B ltB xk0 xk1 xk2 xlt k0A k1A ltA f0A f1A
    replace HWA := Lib.hid ((HWA.out.oldT HXA.out _ _).below hb)
    replace HXB := Lib.hid ((HXB.out.old_other (B' := w2.heap.size) (by omega) _ _).below hb)
    replace HXC := Lib.hid ((HXC.out.old_other (B' := w2.heap.size) (by omega) _ _).below hb)
    replace HP := Lib.hid ((HP.out.old_other (B' := w2.heap.size) (by omega) _ _).under hb (HP.out.old_other (B' := w2.heap.size) (by omega) _ _).lt)
    obtain ⟨hk, hnew⟩ := oldBox_then HXA.out hb
    replace HXA := Lib.hid hnew
    have HB8 := Lib.hid (HB7.out.trans (hk.mono (by omega)))
    clear hb hk hnew
    have hs8A : w2.heap.size < w8.heap.size := HXA.out.lt
    have hs8C : w3.heap.size < w8.heap.size := HXC.out.lt
    have HWC := Lib.hid hwa
    clear hwa
    have k0B := HXB.out.k0; have k1B := HXB.out.k1; have ltB := HXB.out.lt
    have xk0 := HP.out.k0; have xk1 := HP.out.k1; have xk2 := HP.out.k2; have xlt := HP.out.lt
    have k0C := HXC.out.k0; have k1C := HXC.out.k1; have ltC := HXC.out.lt
    have f0C := HXC.out.f0; have f1C := HXC.out.f1
    go_wp2_with fail
    refine (Q7.out _ (oldBelow HB8.out HXC.out (by omega) _ _)).mono ?_
    rintro e w9 ⟨rfl, hb⟩
    clear k0B k1B ltB xk0 xk1 xk2 xlt k0C k1C ltC f0C f1C
    replace HWA := Lib.hid ((HWA.out.oldT HXC.out _ _).below hb)
    replace HWC := Lib.hid ((HWC.out.oldT HXC.out _ _).below hb)
    replace HXB := Lib.hid ((HXB.out.old_other (B' := w3.heap.size) (by omega) _ _).below hb)
    replace HXA := Lib.hid ((HXA.out.old_other (B' := w3.heap.size) (by omega) _ _).below hb)
    replace HP := Lib.hid ((HP.out.old_other (B' := w3.heap.size) (by omega) _ _).under hb (HP.out.old_other (B' := w3.heap.size) (by omega) _ _).lt)
    obtain ⟨hk, hnew⟩ := oldBox_then HXC.out hb
    replace HXC := Lib.hid hnew
    have HB9 := Lib.hid (HB8.out.trans (hk.mono (by omega)))
    clear hb hk hnew
    have hs9A : w2.heap.size < w9.heap.size := HXA.out.lt
    have hs9C : w3.heap.size < w9.heap.size := HXC.out.lt
    have k0B := HXB.out.k0; have k1B := HXB.out.k1; have ltB := HXB.out.lt
    have xk0 := HP.out.k0; have xk1 := HP.out.k1; have xk2 := HP.out.k2; have xlt := HP.out.lt
    go_wp2_with fail
    refine (Q8.out _ HB9.out).mono ?_
    rintro e w10 ⟨rfl, hb⟩
    clear k0B k1B ltB xk0 xk1 xk2 xlt
    replace HXB := Lib.hid (HXB.out.below hb)
    replace HXA := Lib.hid (HXA.out.below hb)
    replace HXC := Lib.hid (HXC.out.below hb)
    replace HP := Lib.hid (HP.out.under hb HP.out.lt)
    replace HWA := Lib.hid (HWA.out.below hb)
    replace HWC := Lib.hid (HWC.out.below hb)
    have HB10 := Lib.hid (HB9.out.trans (hb.mono HB9.out.size))
    clear hb
    have hs10A : w2.heap.size < w10.heap.size := HXA.out.lt
    have hs10C : w3.heap.size < w10.heap.size := HXC.out.lt
    have k0A := HXA.out.k0; have k1A := HXA.out.k1; have ltA := HXA.out.lt
    have k0C := HXC.out.k0; have k1C := HXC.out.k1; have ltC := HXC.out.lt
    go_wp2_with fail
    refine (same_any _ _ _ _ _ _ _ HWA.out HWC.out).mono ?_
    rintro e w11 ⟨rfl, hb⟩
    clear k0A k1A ltA k0C k1C ltC
    replace HXB := Lib.hid (HXB.out.below hb)
    replace HXA := Lib.hid (HXA.out.below hb)
    replace HXC := Lib.hid (HXC.out.below hb)
    replace HP := Lib.hid (HP.out.under hb HP.out.lt)
    replace HWA := Lib.hid (HWA.out.below hb)
    replace HWC := Lib.hid (HWC.out.below hb)
    have HB11 := Lib.hid (HB10.out.trans (hb.mono HB10.out.size))
    clear hb
    have hs11A : w2.heap.size < w11.heap.size := HXA.out.lt
    have hs11C : w3.heap.size < w11.heap.size := HXC.out.lt
    go_wp2_with fail
    refine (CA.out _ HB11.out).mono ?_
    rintro e w12 ⟨rfl, hb⟩
    have HB12 := Lib.hid (HB11.out.trans (hb.mono HB11.out.size))
    clear hb
    go_wp2_with fail
    go_ret
    exact ⟨rfl, HB12.out⟩
end Go.Proofs.YtocgdibadcmnfaaDoor
