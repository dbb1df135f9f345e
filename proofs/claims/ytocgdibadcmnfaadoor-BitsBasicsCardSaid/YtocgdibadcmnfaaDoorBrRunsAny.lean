/- The reference's Runs. -/
import Derived.Test.YtocgdibadcmnfaaDoorBrRuns
namespace Go.Proofs.YtocgdibadcmnfaaDoor
open Go.RowKit Go.Shelf
set_option maxHeartbeats 1000000 in
set_option maxRecDepth 100000 in
theorem rRuns_any (n : Int) (p : Option Addr) (cap : Nat) (ws : List Nat) (on : Bool) (w : World) (h : WordsAt w p ws) :
    Calls Tryd.prog 33 #[.agg #[.int .i64 n, .slice p ws.length cap], .bool on] w (RunsPost (runsR n ws on) w) := by
  have ck := fun W (hW : Below w.heap.size w W) => rcheck_any n p cap ws W (h.below hW)
  have e : runsR n ws on = if checkR n ws ≠ 0 then ([], checkR n ws) else (runsL (bitN ws) on n.toNat 0, 0) := rfl
  have hok := checkR_ok (n := n) h.lt
  have HW := Lib.hid h
  generalize checkR n ws = c at ck e hok
  generalize runsR n ws on = r at e
  have CK := Lib.hid ck
  clear h ck
  by_cases hc : c = 0
  · subst hc
    obtain ⟨hn0, hv⟩ := hok rfl
    obtain ⟨m, rfl⟩ : ∃ m : Nat, n = (m : Int) := ⟨n.toNat, by omega⟩
    rw [if_neg (by simp), Int.toNat_natCast] at e
    rw [Int.toNat_natCast] at hv
    have hm := hv.le
    have cl := fun W (hW : Below w.heap.size w W) => rlist_any m p cap ws W (HW.out.below hW) hv
    unfold ListPost at cl
    have CL := Lib.hid cl; have E := Lib.hid e
    clear e cl hok hv hn0
    go_enter Tryd.func33, Tryd.ntmps33
    go_wp2_with fail
    refine (CK.out _ ((Below.refl _ _).alloc (Nat.le_refl _) _)).mono ?_
    rintro e w1 ⟨rfl, hb⟩
    have HB1 := Lib.hid (boxB hb); have HX1 := Lib.hid ((box0 w m (.slice p ws.length cap)).below hb)
    clear hb
    have c0 := HX1.out.c0; have c1 := HX1.out.c1
    go_wp2_with fail
    refine (CL.out _ HB1.out).mono ?_
    rintro e w2 ⟨v, rfl, hb, ho⟩
    obtain ⟨pb, cb, rfl, hbo⟩ := own_bools ho
    have HB2 := Lib.hid (HB1.out.trans (hb.mono HB1.out.size)); have HBO := Lib.hid hbo
    clear hb ho hbo c0 c1
    go_wp2_with fail
    refine (rruns_any (bitN ws) on m _ _ _ hm HBO.out).mono ?_
    rintro e w3 ⟨v, rfl, hb, ho⟩
    have HB3 := Lib.hid (HB2.out.trans (hb.mono HB2.out.size)); have HO := Lib.hid (ownsRow_base ho HB2.out.size)
    clear hb ho
    go_wp2_with fail
    go_ret2
    rw [E.out]
    exact runsPost_mk rfl HB3.out HO.out
  · rw [if_pos hc] at e
    have E := Lib.hid e
    obtain ⟨t1, t2⟩ := neq0 hc
    clear e hok hc
    go_enter Tryd.func33, Tryd.ntmps33
    go_wp2_with (go_at_call 20; refine (CK.out _ ((Below.refl _ _).alloc (Nat.le_refl _) _)).mono ?_; rintro e w1 ⟨rfl, hb⟩; have HB1 := Lib.hid (boxB hb); clear hb)
    go_ret2
    rw [E.out]
    exact runsPost_mk rfl HB1.out (World.ownsRow_nil _ _ _ _)
end Go.Proofs.YtocgdibadcmnfaaDoor
