/- The law SpansAsks, walked. -/
import Derived.Test.YtiaeidcillphnaaSpAwake
import Derived.Test.YtiaeidcillphnaaSpRCount
namespace Go.Proofs.Ytiaeidcillphnaa
open Go.RowKit

set_option maxHeartbeats 8000000 in
set_option maxRecDepth 100000 in
theorem spansAsks_walk (l : List (Int × Int)) (p : Option Addr) (cap : Nat) (x y : Int) (w : World) (h : SpsAt w p l) (hf : Fits (x, y)) :
    Calls Try.prog 5 #[.slice p l.length cap, .agg #[.int .i64 x, .int .i64 y]] w (TruePost w) := by
  have CL := Lib.hid (fun W => long_any l.length p cap W); have CA := Lib.hid (fun W => awake_any W)
  by_cases h1 : 2100 < l.length
  · have i1 : (2100 : Int) < l.length := by omega
    clear h h1
    go_enter Try.func5, Try.ntmps5
    go_wp2_with fail
    refine (CL.out _).mono ?_
    rintro e w1 ⟨rfl, rfl⟩
    go_wp2_with fail
    refine (CA.out _).mono ?_
    rintro e w2 ⟨rfl, hb⟩
    have HB := Lib.hid hb
    clear hb
    go_wp2_with fail
    go_ret
    exact ⟨rfl, by first | exact HB.out | exact boxB HB.out⟩
  · have i1 : ¬ (2100 : Int) < l.length := by omega
    have p1 := fun W (hW : Below w.heap.size w W) => has_any l p cap x y W (h.below hW) hf
    have p2 := fun W (hW : Below w.heap.size w W) => meets_any l p cap x y W (h.below hW) hf
    have p3 := fun W (hW : Below w.heap.size w W) => count_any l p cap W (h.below hW)
    have r1 := fun W (hW : Below w.heap.size w W) => rHas_any l p cap x y W (h.below hW) hf
    have r2 := fun W (hW : Below w.heap.size w W) => rMeets_any l p cap x y W (h.below hW) hf
    have r3 := fun W (hW : Below w.heap.size w W) => rCount_any l p cap W (h.below hW)
    unfold BoolErr at p1 r1
    generalize hasR l (x, y) = u1 at p1 r1
    obtain ⟨a1, e1⟩ := u1
    simp only at p1 r1
    have P1 := Lib.hid p1; have R1 := Lib.hid r1
    have t1 : (a1 == a1) = true := by simp
    have s1 : (e1 == e1) = true := by simp
    clear p1 r1
    unfold BoolErr at p2 r2
    generalize meetsR l (x, y) = u2 at p2 r2
    obtain ⟨a2, e2⟩ := u2
    simp only at p2 r2
    have P2 := Lib.hid p2; have R2 := Lib.hid r2
    have t2 : (a2 == a2) = true := by simp
    have s2 : (e2 == e2) = true := by simp
    clear p2 r2
    unfold IntErr at p3 r3
    generalize countR l = u3 at p3 r3
    obtain ⟨a3, e3⟩ := u3
    simp only at p3 r3
    have P3 := Lib.hid p3; have R3 := Lib.hid r3
    have t3 : (a3 == a3) = true := by simp
    have s3 : (e3 == e3) = true := by simp
    clear p3 r3
    clear h h1
    go_enter Try.func5, Try.ntmps5
    go_wp2_with fail
    refine (CL.out _).mono ?_
    rintro e w0 ⟨rfl, rfl⟩
    have HB := Lib.hid (show Below w.heap.size w (w.alloc (.cells #[.int .i64 x, .int .i64 y] 31)) from (Below.refl _ _).alloc (Nat.le_refl _) _)
    have HBX := Lib.hid (show XAt (w.alloc (.cells #[.int .i64 x, .int .i64 y] 31)) w.heap.size x y from ⟨row_cell (heap_alloc_new w _) rfl, row_cell (heap_alloc_new w _) rfl⟩)
    have q0 := HBX.out.c0
    have q1 := HBX.out.c1
    go_wp2_with fail
    refine (P1.out _ HB.out).mono ?_
    rintro e v1 ⟨rfl, hb⟩
    have HB := Lib.hid (below_next HB.out hb)
    have HBX := Lib.hid (HBX.out.below hb)
    clear hb q0 q1
    have q0 := HBX.out.c0
    have q1 := HBX.out.c1
    go_wp2_with fail
    refine (R1.out _ HB.out).mono ?_
    rintro e v2 ⟨rfl, hb⟩
    have HB := Lib.hid (below_next HB.out hb)
    have HBX := Lib.hid (HBX.out.below hb)
    clear hb q0 q1
    have q0 := HBX.out.c0
    have q1 := HBX.out.c1
    go_wp2_with fail
    refine (P2.out _ HB.out).mono ?_
    rintro e v3 ⟨rfl, hb⟩
    have HB := Lib.hid (below_next HB.out hb)
    have HBX := Lib.hid (HBX.out.below hb)
    clear hb q0 q1
    have q0 := HBX.out.c0
    have q1 := HBX.out.c1
    go_wp2_with fail
    refine (R2.out _ HB.out).mono ?_
    rintro e v4 ⟨rfl, hb⟩
    have HB := Lib.hid (below_next HB.out hb)
    have HBX := Lib.hid (HBX.out.below hb)
    clear hb q0 q1
    go_wp2_with fail
    refine (P3.out _ HB.out).mono ?_
    rintro e v5 ⟨rfl, hb⟩
    have HB := Lib.hid (below_next HB.out hb)
    have HBX := Lib.hid (HBX.out.below hb)
    clear hb
    go_wp2_with fail
    refine (R3.out _ HB.out).mono ?_
    rintro e v6 ⟨rfl, hb⟩
    have HB := Lib.hid (below_next HB.out hb)
    have HBX := Lib.hid (HBX.out.below hb)
    clear hb
    go_wp2_with fail
    refine (CA.out _).mono ?_
    rintro e w2 ⟨rfl, hb⟩
    have HB := Lib.hid (below_next HB.out hb)
    clear hb
    go_wp2_with fail
    go_ret
    exact ⟨rfl, HB.out⟩
end Go.Proofs.Ytiaeidcillphnaa
