/- BitsRuns: the walk. -/
import Derived.Test.YtgemakjbjeoabaaDoorBrRunsAny
namespace Go.Proofs.YtgemakjbjeoabaaDoor
open Go.RowKit Go.Shelf
theorem runsR_len (n : Int) {ws : List Nat} (h : ∀ x ∈ ws, x < 2 ^ 64) (on : Bool) : (runsR n ws on).1.length ≤ 100000 := by
  unfold runsR
  by_cases hc : checkR n ws ≠ 0
  · rw [if_pos hc]; simp
  · rw [if_neg hc]
    obtain ⟨_, hv⟩ := checkR_ok h (Classical.not_not.1 hc)
    have h1 := runsF_len (bitN ws) on n.toNat (n.toNat + 1) 0
    have h2 := hv.le
    show (runsF (bitN ws) on n.toNat (n.toNat + 1) 0).length ≤ 100000
    omega
set_option maxHeartbeats 1000000 in
set_option maxRecDepth 100000 in
theorem runs_walk (n : Int) (p : Option Addr) (cap : Nat) (ws : List Nat) (on : Bool) (w : World) (h : WordsAt w p ws) (he : BEnv w) :
    Calls Tryd.prog 5 #[.agg #[.int .i64 n, .slice p ws.length cap], .bool on] w (TruePost w) := by
  have CA := Lib.hid (fun W (hW : Below w.heap.size w W) => awake_any W (he.below hW))
  have cf := fun W => far_any n p ws.length cap W h.len
  have cr := fun W (hW : Below w.heap.size w W) => Runs_any n p cap ws on W (h.below hW) (he.below hW)
  have cs := fun W (hW : Below w.heap.size w W) => rRuns_any n p cap ws on W (h.below hW)
  have hl := runsR_len n h.lt on
  generalize runsR n ws on = r at cr cs hl
  obtain ⟨L, c⟩ := r
  unfold RunsPost at cr cs
  simp only at cr cs hl
  have q1 : (c == c) = true := beq_self_eq_true _
  have CR := Lib.hid cr; have CS := Lib.hid cs
  clear cr cs h he
  by_cases hfar : 100 < ws.length
  · have hd : decide (100 < ws.length) = true := by simpa using hfar
    rw [hd] at cf
    have CF := Lib.hid cf
    clear cf hd hfar
    go_enter Tryd.func5, Tryd.ntmps5
    go_wp2_with fail
    refine (CF.out _).mono ?_
    rintro e w1 ⟨rfl, hb⟩
    have HB1 := Lib.hid (boxB hb)
    clear hb
    go_wp2_with fail
    refine (CA.out _ HB1.out).mono ?_
    rintro e w2 ⟨rfl, hb⟩
    have HB2 := Lib.hid (HB1.out.trans (hb.mono HB1.out.size))
    clear hb
    go_wp2_with fail
    go_ret
    exact ⟨rfl, HB2.out⟩
  · have hd : decide (100 < ws.length) = false := by simpa using hfar
    rw [hd] at cf
    have CF := Lib.hid cf
    clear cf hd hfar
    go_enter Tryd.func5, Tryd.ntmps5
    go_wp2_with fail
    refine (CF.out _).mono ?_
    rintro e w1 ⟨rfl, hb⟩
    have HB1 := Lib.hid (boxB hb); have HX1 := Lib.hid ((box0 w n (.slice p ws.length cap)).below hb)
    clear hb
    have c0 := HX1.out.c0; have c1 := HX1.out.c1
    go_wp2_with fail
    refine (CR.out _ HB1.out).mono ?_
    rintro e w2 ⟨v1, rfl, hb, ho⟩
    obtain ⟨p1, cap1, rfl, hr1⟩ := own_runsAt ho
    have HB2 := Lib.hid (HB1.out.trans (hb.mono HB1.out.size)); have HX2 := Lib.hid (HX1.out.below hb); have HR1 := Lib.hid hr1
    clear hb c0 c1 ho hr1
    have c0 := HX2.out.c0; have c1 := HX2.out.c1
    go_wp2_with fail
    refine (CS.out _ HB2.out).mono ?_
    rintro e w3 ⟨v2, rfl, hb, ho⟩
    obtain ⟨p2, cap2, rfl, hr2⟩ := own_runsAt ho
    have HB3 := Lib.hid (HB2.out.trans (hb.mono HB2.out.size)); have HR2 := Lib.hid hr2; have HR1b := Lib.hid (HR1.out.below hb)
    clear hb c0 c1 ho hr2
    go_wp2_with fail
    refine (sameRuns_any L _ _ _ _ _ hl HR1b.out HR2.out).mono ?_
    rintro e w4 ⟨rfl, hb⟩
    have HB4 := Lib.hid (HB3.out.trans (hb.mono HB3.out.size))
    clear hb
    go_wp2_with fail
    refine (CA.out _ HB4.out).mono ?_
    rintro e w5 ⟨rfl, hb⟩
    have HB5 := Lib.hid (HB4.out.trans (hb.mono HB4.out.size))
    clear hb
    go_wp2_with fail
    go_ret
    exact ⟨rfl, HB5.out⟩
end Go.Proofs.YtgemakjbjeoabaaDoor
