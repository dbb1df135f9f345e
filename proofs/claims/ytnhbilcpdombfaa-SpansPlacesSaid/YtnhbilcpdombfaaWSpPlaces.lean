/- The law SpansPlaces, walked. -/
import Derived.Test.YtnhbilcpdombfaaSpAwake
import Derived.Test.YtnhbilcpdombfaaSpRBest
namespace Go.Proofs.Ytnhbilcpdombfaa
open Go.RowKit

set_option maxHeartbeats 8000000 in
set_option maxRecDepth 100000 in
theorem spansPlaces_walk (l : List (Int × Int)) (p : Option Addr) (cap : Nat) (x y : Int) (w : World) (h : SpsAt w p l) :
    Calls Try.prog 6 #[.slice p l.length cap, .int .i64 x, .int .i64 y] w (TruePost w) := by
  have CL := Lib.hid (fun W => long_any l.length p cap W); have CA := Lib.hid (fun W => awake_any W)
  by_cases h1 : 2100 < l.length
  · have i1 : (2100 : Int) < l.length := by omega
    clear h h1
    go_enter Try.func6, Try.ntmps6
    go_wp2_with fail
    refine (CL.out _).mono ?_
    rintro e w1 ⟨rfl, rfl⟩
    go_wp2_with fail
    refine (CA.out _).mono ?_
    rintro e w2 ⟨rfl, hb⟩
    have HB := Lib.hid hb
    clear hb
    go_wp2_with fail
    go_ret
    exact ⟨rfl, HB.out⟩
  · have i1 : ¬ (2100 : Int) < l.length := by omega
    have p1 := fun W (hW : Below w.heap.size w W) => first_any l p cap x y W (h.below hW)
    have p2 := fun W (hW : Below w.heap.size w W) => best_any l p cap x y W (h.below hW)
    have r1 := fun W (hW : Below w.heap.size w W) => rFirst_any l p cap x y W (h.below hW)
    have r2 := fun W (hW : Below w.heap.size w W) => rBest_any l p cap x y W (h.below hW)
    unfold IntErr at p1 r1
    generalize firstR l x y = u1 at p1 r1
    obtain ⟨a1, e1⟩ := u1
    simp only at p1 r1
    have P1 := Lib.hid p1; have R1 := Lib.hid r1
    have t1 : (a1 == a1) = true := by simp
    have s1 : (e1 == e1) = true := by simp
    clear p1 r1
    unfold IntErr at p2 r2
    generalize bestR l x y = u2 at p2 r2
    obtain ⟨a2, e2⟩ := u2
    simp only at p2 r2
    have P2 := Lib.hid p2; have R2 := Lib.hid r2
    have t2 : (a2 == a2) = true := by simp
    have s2 : (e2 == e2) = true := by simp
    clear p2 r2
    have HB := Lib.hid (Below.refl w.heap.size w)
    clear h h1
    go_enter Try.func6, Try.ntmps6
    go_wp2_with fail
    refine (CL.out _).mono ?_
    rintro e w0 ⟨rfl, rfl⟩
    go_wp2_with fail
    refine (P1.out _ HB.out).mono ?_
    rintro e v1 ⟨rfl, hb⟩
    have HB := Lib.hid (below_next HB.out hb)
    clear hb
    go_wp2_with fail
    refine (R1.out _ HB.out).mono ?_
    rintro e v2 ⟨rfl, hb⟩
    have HB := Lib.hid (below_next HB.out hb)
    clear hb
    go_wp2_with fail
    refine (P2.out _ HB.out).mono ?_
    rintro e v3 ⟨rfl, hb⟩
    have HB := Lib.hid (below_next HB.out hb)
    clear hb
    go_wp2_with fail
    refine (R2.out _ HB.out).mono ?_
    rintro e v4 ⟨rfl, hb⟩
    have HB := Lib.hid (below_next HB.out hb)
    clear hb
    go_wp2_with fail
    refine (CA.out _).mono ?_
    rintro e w2 ⟨rfl, hb⟩
    have HB := Lib.hid (below_next HB.out hb)
    clear hb
    go_wp2_with fail
    go_ret
    exact ⟨rfl, HB.out⟩
end Go.Proofs.Ytnhbilcpdombfaa
