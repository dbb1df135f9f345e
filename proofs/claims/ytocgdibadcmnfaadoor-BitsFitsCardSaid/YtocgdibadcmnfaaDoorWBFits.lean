/- BitsFits: the walk. -/
import Derived.Test.YtocgdibadcmnfaaDoorBrBest
import Derived.Test.YtocgdibadcmnfaaDoorBrBlock
namespace Go.Proofs.YtocgdibadcmnfaaDoor
open Go.RowKit Go.Shelf
set_option maxHeartbeats 4000000 in
set_option maxRecDepth 100000 in
theorem fits_walk (n : Int) (p : Option Addr) (cap : Nat) (ws : List Nat) (s a : Int) (w : World) (h : WordsAt w p ws) (he : BEnv w) (hs : s ≤ 9223372036854775807) :
    Calls Tryd.prog 6 #[.agg #[.int .i64 n, .slice p ws.length cap], .int .i64 s, .int .i64 a] w (TruePost w) := by
  have CA := Lib.hid (fun W (hW : Below w.heap.size w W) => awake_any W (he.below hW))
  have cf := fun W => far_any n p ws.length cap W h.len
  have q1 := fun W (hW : Below w.heap.size w W) => fit_any n p cap ws s a W (h.below hW) (he.below hW)
  have q2 := fun W (hW : Below w.heap.size w W) => rFit_any n p cap ws s a W (h.below hW) hs
  have q3 := fun W (hW : Below w.heap.size w W) => best_any n p cap ws s W (h.below hW) (he.below hW)
  have q4 := fun W (hW : Below w.heap.size w W) => rBest_any n p cap ws s W (h.below hW) hs
  have q5 := fun W (hW : Below w.heap.size w W) => block_any n p cap ws s W (h.below hW)
  have q6 := fun W (hW : Below w.heap.size w W) => rBlock_any n p cap ws s W (h.below hW)
  generalize fitR n ws s a = r1 at q1 q2
  generalize bestR n ws s = r2 at q3 q4
  generalize blockR n ws s = r3 at q5 q6
  obtain ⟨x1, y1⟩ := r1
  obtain ⟨x2, y2⟩ := r2
  obtain ⟨x3, y3⟩ := r3
  unfold IntErr at q1 q2 q3 q4 q5 q6
  simp only at q1 q2 q3 q4 q5 q6
  have Q1 := Lib.hid q1; have Q2 := Lib.hid q2; have Q3 := Lib.hid q3; have Q4 := Lib.hid q4; have Q5 := Lib.hid q5; have Q6 := Lib.hid q6
  have t1 : (x1 != x1) = false := by simp
  have t2 : (y1 != y1) = false := by simp
  have t3 : (x2 != x2) = false := by simp
  have t4 : (y2 != y2) = false := by simp
  have t5 : (x3 == x3) = true := by simp
  have t6 : (y3 == y3) = true := by simp
  clear q1 q2 q3 q4 q5 q6 h he hs
  by_cases hm : 20 < ws.length ∧ ws.length ≤ 64
  · obtain ⟨m1, m2⟩ := hm
    have i1 : (20 : Int) < ws.length := by omega
    have i2 : (ws.length : Int) ≤ 64 := by omega
    clear cf
    go_enter Tryd.func6, Tryd.ntmps6
    go_wp2_with fail
    refine (CA.out _ ((Below.refl _ _).alloc (Nat.le_refl _) _)).mono ?_
    rintro e w1 ⟨rfl, hb⟩
    have HB1 := Lib.hid (boxB hb)
    clear hb
    go_wp2_with fail
    go_ret
    exact ⟨rfl, HB1.out⟩
  · by_cases hfar : 100 < ws.length
    · have hd : decide (100 < ws.length) = true := by simpa using hfar
      rw [hd] at cf
      have CF := Lib.hid cf
      have i1 : (20 : Int) < ws.length := by omega
      have i2 : ¬ (ws.length : Int) ≤ 64 := by omega
      clear cf hd hfar
      go_enter Tryd.func6, Tryd.ntmps6
      go_wp2_with fail
      refine (CF.out _).mono ?_
      rintro e w1 ⟨rfl, hb⟩
      have HB1 := Lib.hid (boxB hb)
      clear hb
      go_wp2_with fail
      refine (CA.out _ HB1.out).mono ?_
      rintro e w2 ⟨rfl, hb⟩
      have HB2 := Lib.hid (HB1.out.trans (hb.mono HB1.out.size))
      clear hb
      go_wp2_with fail
      go_ret
      exact ⟨rfl, HB2.out⟩
    · have hd : decide (100 < ws.length) = false := by simpa using hfar
      rw [hd] at cf
      have CF := Lib.hid cf
      have hi : (¬ (20 : Int) < ws.length ∧ (ws.length : Int) ≤ 20) ∨ ((20 : Int) < ws.length ∧ ¬ (ws.length : Int) ≤ 64) := by omega
      clear cf hd hfar hm
      rcases hi with ⟨i1, i2⟩ | ⟨i1, i2⟩
      all_goals
        go_enter Tryd.func6, Tryd.ntmps6
        go_wp2_with fail
        refine (CF.out _).mono ?_
        rintro e w1 ⟨rfl, hb⟩
        have HB1 := Lib.hid (boxB hb); have HX1 := Lib.hid ((box0 w n (.slice p ws.length cap)).below hb)
        clear hb
        have c0 := HX1.out.c0; have c1 := HX1.out.c1
        go_wp2_with fail
        refine (Q1.out _ HB1.out).mono ?_
        rintro e w2 ⟨rfl, hb⟩
        have HB2 := Lib.hid (HB1.out.trans (hb.mono HB1.out.size)); have HX2 := Lib.hid (HX1.out.below hb)
        clear hb c0 c1
        have c0 := HX2.out.c0; have c1 := HX2.out.c1
        go_wp2_with fail
        refine (Q2.out _ HB2.out).mono ?_
        rintro e w3 ⟨rfl, hb⟩
        have HB3 := Lib.hid (HB2.out.trans (hb.mono HB2.out.size)); have HX3 := Lib.hid (HX2.out.below hb)
        clear hb c0 c1
        have c0 := HX3.out.c0; have c1 := HX3.out.c1
        go_wp2_with fail
        refine (Q3.out _ HB3.out).mono ?_
        rintro e w4 ⟨rfl, hb⟩
        have HB4 := Lib.hid (HB3.out.trans (hb.mono HB3.out.size)); have HX4 := Lib.hid (HX3.out.below hb)
        clear hb c0 c1
        have c0 := HX4.out.c0; have c1 := HX4.out.c1
        go_wp2_with fail
        refine (Q4.out _ HB4.out).mono ?_
        rintro e w5 ⟨rfl, hb⟩
        have HB5 := Lib.hid (HB4.out.trans (hb.mono HB4.out.size)); have HX5 := Lib.hid (HX4.out.below hb)
        clear hb c0 c1
        have c0 := HX5.out.c0; have c1 := HX5.out.c1
        go_wp2_with fail
        refine (Q5.out _ HB5.out).mono ?_
        rintro e w6 ⟨rfl, hb⟩
        have HB6 := Lib.hid (HB5.out.trans (hb.mono HB5.out.size)); have HX6 := Lib.hid (HX5.out.below hb)
        clear hb c0 c1
        have c0 := HX6.out.c0; have c1 := HX6.out.c1
        go_wp2_with fail
        refine (Q6.out _ HB6.out).mono ?_
        rintro e w7 ⟨rfl, hb⟩
        have HB7 := Lib.hid (HB6.out.trans (hb.mono HB6.out.size)); have HX7 := Lib.hid (HX6.out.below hb)
        clear hb c0 c1
        have c0 := HX7.out.c0; have c1 := HX7.out.c1
        go_wp2_with fail
        refine (CA.out _ HB7.out).mono ?_
        rintro e w8 ⟨rfl, hb⟩
        have HB8 := Lib.hid (HB7.out.trans (hb.mono HB7.out.size))
        clear hb
        go_wp2_with fail
        go_ret
        exact ⟨rfl, HB8.out⟩
end Go.Proofs.YtocgdibadcmnfaaDoor
