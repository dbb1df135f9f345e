/- BitsFinds: the walk. -/
import Derived.Test.YtocgdibadcmnfaaDoorBrFind2
import Derived.Test.YtocgdibadcmnfaaDoorBtMorgan
namespace Go.Proofs.YtocgdibadcmnfaaDoor
open Go.RowKit Go.Shelf
theorem find_boxes (w : World) (a0 a1 x y z : Value) : Below w.heap.size w ((w.alloc (.cells #[a0, a1] 24)).alloc (.cells #[x, y, z] 26)) ∧
    Res2 ((w.alloc (.cells #[a0, a1] 24)).alloc (.cells #[x, y, z] 26)) w.heap.size a0 a1 ∧
    Res3 ((w.alloc (.cells #[a0, a1] 24)).alloc (.cells #[x, y, z] 26)) (w.heap.size + 1) x y z := by
  obtain ⟨h1, h2, h3, h4⟩ := alloc2 w (.cells #[a0, a1] 24) (.cells #[x, y, z] 26)
  exact ⟨h1, ⟨row_cell h3 rfl, row_cell h3 rfl, row_free h3, row_free h3, by rw [h2]; omega⟩, ⟨row_cell h4 rfl, row_cell h4 rfl, row_cell h4 rfl, by rw [h2]; omega⟩⟩
set_option maxHeartbeats 4000000 in
set_option maxRecDepth 100000 in
theorem finds_walk (n : Int) (p : Option Addr) (cap : Nat) (ws : List Nat) (a b : Int) (on : Bool) (k : Int) (w : World) (h : WordsAt w p ws) (he : BEnv w) (hk : k ≤ 9223372036854775807) :
    Calls Tryd.prog 4 #[.agg #[.int .i64 n, .slice p ws.length cap], .agg #[.int .i64 a, .int .i64 b, .bool on], .int .i64 k] w (TruePost w) := by
  have CA := Lib.hid (fun W (hW : Below w.heap.size w W) => awake_any W (he.below hW))
  have cf := fun W => far_any n p ws.length cap W h.len
  have q1 := fun W (hW : Below w.heap.size w W) => select_any n p cap ws k on W (h.below hW) hk (he.below hW)
  have q2 := fun W (hW : Below w.heap.size w W) => rSelect_any n p cap ws k on W (h.below hW) hk
  have q3 := fun W (hW : Below w.heap.size w W) => Next_any n p cap ws a on W (h.below hW) (he.below hW)
  have q4 := fun W (hW : Below w.heap.size w W) => rNext_any n p cap ws a on W (h.below hW)
  have q5 := fun W (hW : Below w.heap.size w W) => last_any n p cap ws b on W (h.below hW)
  have q6 := fun W (hW : Below w.heap.size w W) => rLast_any n p cap ws b on W (h.below hW)
  generalize selectR n ws k on = r1 at q1 q2
  generalize nextR n ws a on = r2 at q3 q4
  generalize lastR n ws b on = r3 at q5 q6
  obtain ⟨x1, y1⟩ := r1
  obtain ⟨x2, y2⟩ := r2
  obtain ⟨x3, y3⟩ := r3
  unfold IntErr at q1 q2 q3 q4 q5 q6
  simp only at q1 q2 q3 q4 q5 q6
  have Q1 := Lib.hid q1; have Q2 := Lib.hid q2; have Q3 := Lib.hid q3; have Q4 := Lib.hid q4; have Q5 := Lib.hid q5; have Q6 := Lib.hid q6
  have FB := Lib.hid (fun a0 a1 x y z => find_boxes w a0 a1 x y z)
  have t1 : (x1 != x1) = false := by simp
  have t2 : (y1 != y1) = false := by simp
  have t3 : (x2 == x2) = true := by simp
  have t4 : (y2 == y2) = true := by simp
  have t5 : (x3 == x3) = true := by simp
  have t6 : (y3 == y3) = true := by simp
  clear q1 q2 q3 q4 q5 q6 h he hk
  by_cases hfar : 100 < ws.length
  · have hd : decide (100 < ws.length) = true := by simpa using hfar
    rw [hd] at cf
    have CF := Lib.hid cf
    clear cf hd hfar
    go_enter Tryd.func4, Tryd.ntmps4
    go_wp2_with fail
    refine (CF.out _).mono ?_
    rintro e w1 ⟨rfl, hb⟩
    have HB1 := Lib.hid ((FB.out _ _ _ _ _).1.trans (hb.mono (FB.out _ _ _ _ _).1.size))
    clear hb
    go_wp2_with fail
    refine (CA.out _ HB1.out).mono ?_
    rintro e w2 ⟨rfl, hb⟩
    have HB2 := Lib.hid (HB1.out.trans (hb.mono HB1.out.size))
    clear hb
    go_wp2_with fail
    go_ret
    exact ⟨rfl, HB2.out⟩
  · have hd : decide (100 < ws.length) = false := by simpa using hfar
    rw [hd] at cf
    have CF := Lib.hid cf
    clear cf hd hfar
    go_enter Tryd.func4, Tryd.ntmps4
    go_wp2_with fail
    refine (CF.out _).mono ?_
    rintro e w1 ⟨rfl, hb⟩
    have HB1 := Lib.hid ((FB.out _ _ _ _ _).1.trans (hb.mono (FB.out _ _ _ _ _).1.size))
    obtain ⟨_, z1, z2⟩ := FB.out (.int .i64 n) (.slice p ws.length cap) (.int .i64 a) (.int .i64 b) (.bool on)
    have HX1 := Lib.hid (z1.below hb); have HY1 := Lib.hid (z2.under hb z2.lt)
    clear hb z1 z2
    have c0 := HX1.out.k0; have c1 := HX1.out.k1; have d0 := HY1.out.k0; have d1 := HY1.out.k1; have d2 := HY1.out.k2
    go_wp2_with fail
    refine (Q1.out _ HB1.out).mono ?_
    rintro e w2 ⟨rfl, hb⟩
    have HB2 := Lib.hid (HB1.out.trans (hb.mono HB1.out.size)); have HX2 := Lib.hid (HX1.out.below hb); have HY2 := Lib.hid (HY1.out.under hb HY1.out.lt)
    clear hb c0 c1 d0 d1 d2
    have c0 := HX2.out.k0; have c1 := HX2.out.k1; have d0 := HY2.out.k0; have d1 := HY2.out.k1; have d2 := HY2.out.k2
    go_wp2_with fail
    refine (Q2.out _ HB2.out).mono ?_
    rintro e w3 ⟨rfl, hb⟩
    have HB3 := Lib.hid (HB2.out.trans (hb.mono HB2.out.size)); have HX3 := Lib.hid (HX2.out.below hb); have HY3 := Lib.hid (HY2.out.under hb HY2.out.lt)
    clear hb c0 c1 d0 d1 d2
    have c0 := HX3.out.k0; have c1 := HX3.out.k1; have d0 := HY3.out.k0; have d1 := HY3.out.k1; have d2 := HY3.out.k2
    go_wp2_with fail
    refine (Q3.out _ HB3.out).mono ?_
    rintro e w4 ⟨rfl, hb⟩
    have HB4 := Lib.hid (HB3.out.trans (hb.mono HB3.out.size)); have HX4 := Lib.hid (HX3.out.below hb); have HY4 := Lib.hid (HY3.out.under hb HY3.out.lt)
    clear hb c0 c1 d0 d1 d2
    have c0 := HX4.out.k0; have c1 := HX4.out.k1; have d0 := HY4.out.k0; have d1 := HY4.out.k1; have d2 := HY4.out.k2
    go_wp2_with fail
    refine (Q4.out _ HB4.out).mono ?_
    rintro e w5 ⟨rfl, hb⟩
    have HB5 := Lib.hid (HB4.out.trans (hb.mono HB4.out.size)); have HX5 := Lib.hid (HX4.out.below hb); have HY5 := Lib.hid (HY4.out.under hb HY4.out.lt)
    clear hb c0 c1 d0 d1 d2
    have c0 := HX5.out.k0; have c1 := HX5.out.k1; have d0 := HY5.out.k0; have d1 := HY5.out.k1; have d2 := HY5.out.k2
    go_wp2_with fail
    refine (Q5.out _ HB5.out).mono ?_
    rintro e w6 ⟨rfl, hb⟩
    have HB6 := Lib.hid (HB5.out.trans (hb.mono HB5.out.size)); have HX6 := Lib.hid (HX5.out.below hb); have HY6 := Lib.hid (HY5.out.under hb HY5.out.lt)
    clear hb c0 c1 d0 d1 d2
    have c0 := HX6.out.k0; have c1 := HX6.out.k1; have d0 := HY6.out.k0; have d1 := HY6.out.k1; have d2 := HY6.out.k2
    go_wp2_with fail
    refine (Q6.out _ HB6.out).mono ?_
    rintro e w7 ⟨rfl, hb⟩
    have HB7 := Lib.hid (HB6.out.trans (hb.mono HB6.out.size)); have HX7 := Lib.hid (HX6.out.below hb); have HY7 := Lib.hid (HY6.out.under hb HY6.out.lt)
    clear hb c0 c1 d0 d1 d2
    go_wp2_with fail
    refine (CA.out _ HB7.out).mono ?_
    rintro e w8 ⟨rfl, hb⟩
    have HB8 := Lib.hid (HB7.out.trans (hb.mono HB7.out.size))
    clear hb
    go_wp2_with fail
    go_ret
    exact ⟨rfl, HB8.out⟩
end Go.Proofs.YtocgdibadcmnfaaDoor
