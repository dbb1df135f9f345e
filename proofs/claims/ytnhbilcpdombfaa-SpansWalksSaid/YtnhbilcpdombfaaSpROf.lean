/- The reference's Of; a result of Of is a set. -/
import Derived.Test.YtnhbilcpdombfaaSpSet
namespace Go.Proofs.Ytnhbilcpdombfaa
open Go.RowKit

set_option maxHeartbeats 2000000 in
set_option maxRecDepth 100000 in
theorem rof_any (l : List (Int × Int)) (p : Option Addr) (cap : Nat) (w : World) (h : SpsAt w p l) :
    Calls Try.prog 14 #[.slice p l.length cap] w (SpsErr (ofR l) w) := by
  have hlm := h.len
  unfold maxLen at hlm
  have e : ofR l = if listR l 2000 ≠ 0 then ([], listR l 2000) else (setF (inS (down l)) 1024, 0) := rfl
  have el : listR l 2000 = if 2000 < l.length then 3 else if l.all validR then 0 else 7 := rfl
  have HW := Lib.hid h
  clear h
  by_cases h1 : 2000 < l.length
  · rw [if_pos h1] at el
    rw [el, if_pos (by decide)] at e
    have E := Lib.hid e
    have i1 : (2000 : Int) < l.length := by omega
    clear e el
    go_enter Try.func14, Try.ntmps14
    go_wp2_with fail
    go_ret2
    exact spsErr_err E.out (Below.refl _ _)
  · rw [if_neg h1] at el
    have E := Lib.hid e; have EL := Lib.hid el
    have i1 : ¬ (2000 : Int) < l.length := by omega
    have l4 : (l.length : Int) ≤ 2000 := by omega
    clear e el
    go_enter Try.func14, Try.ntmps14
    go_wp2_with fail
    go_loopg [4] l.length (fun n1 i wr => ∃ k : Nat, k + n1 = l.length ∧ i = .int .i64 k ∧ Below w.heap.size w wr ∧ (l.take k).all validR = true)
    case atStart => exact ⟨0, by omega, by go_num, Below.refl _ _, by simp⟩
    case round =>
      obtain ⟨k, hkn, rfl, hbw, hall⟩ := hrel
      have HB := Lib.hid hbw; have HALL := Lib.hid hall
      clear hbw hall
      have k0 : (0 : Int) ≤ k := by omega
      by_cases hlt : k < l.length
      · obtain ⟨n', rfl⟩ : ∃ n', gk = n' + 1 := ⟨gk - 1, by omega⟩
        obtain ⟨g, off, rfl, hg, hc⟩ := (HW.out.below HB.out).at_ (by omega)
        obtain ⟨c0, c1⟩ := hc k hlt
        have hft := HW.out.fit _ (List.getElem_mem hlt)
        have hts := take_all_succ validR l k hlt
        have hno := fun h => all_no (P := validR) hlt h
        have i2 : (k : Int) < l.length := by omega
        have hxy : l[k]'hlt = ((l[k]'hlt).1, (l[k]'hlt).2) := rfl
        rw [hxy] at hft hts hno
        generalize (l[k]'hlt).1 = x at c0 hft hts hno
        generalize (l[k]'hlt).2 = y at c1 hft hts hno
        have cv := fun W => rvalid_any x y W hft
        rw [HALL.out, Bool.true_and] at hts
        unfold BoolPost at cv
        clear hc hxy hft
        cases hv : validR (x, y)
        · have HF := Lib.hid (show ofR l = ([], 7) by rw [E.out, EL.out, hno hv]; rfl)
          rw [hv] at cv
          have CV := Lib.hid cv
          clear cv hts hno hv
          go_wp2_with (go_at_call 49; refine (CV.out _).mono ?_; rintro e w' ⟨rfl, hb⟩; have HB2 := Lib.hid (below_next HB.out hb); clear hb)
          go_ret2
          exact spsErr_err HF.out HB2.out
        · rw [hv] at cv hts
          have CV := Lib.hid cv; have HTS := Lib.hid hts
          clear cv hts hno hv
          go_wp2_with (go_at_call 49; refine (CV.out _).mono ?_; rintro e w' ⟨rfl, hb⟩; have HB2 := Lib.hid (below_next HB.out hb); clear hb)
          go_roundg n'
          case measure => omega
          case rel => exact ⟨k + 1, by omega, by go_num, HB2.out, HTS.out⟩
      · obtain rfl : k = l.length := by omega
        have hva : l.all validR = true := by have := HALL.out; rwa [List.take_length] at this
        have hel : listR l 2000 = 0 := by rw [EL.out, hva]; rfl
        have HE := Lib.hid (show ofR l = (setF (inS (down l)) 1024, 0) by rw [E.out, hel]; rfl)
        have i2 : ¬ ((l.length : Nat) : Int) < l.length := by omega
        have hud := up_down hva
        have cm := rmarks_any (down l) p cap wr (by rw [hud]; exact HW.out.below HB.out) (down_okay hva) (by rw [down_len]; omega)
        rw [down_len] at cm
        have cs := fun W => rset_any (inS (down l)) W
        unfold SpsPost at cs
        have CM := Lib.hid cm; have CS := Lib.hid cs
        clear hva hel E EL HALL hud cm cs
        go_wp2_with fail
        refine CM.out.mono ?_
        rintro e w1 ⟨rfl, hb⟩
        have HB1 := Lib.hid (below_next HB.out hb)
        clear hb
        go_wp2_with fail
        refine (CS.out _).mono ?_
        rintro e w2 ⟨v, rfl, hb, ho⟩
        have HB2 := Lib.hid (below_next HB1.out hb)
        have HO := Lib.hid (ownsRow_base ho HB1.out.size)
        clear hb ho
        go_wp2_with fail
        go_ret2
        exact spsErr_mk HE.out HB2.out HO.out
theorem up_setF (f : Nat → Bool) : (up (setF f 1024)).all validR = true := by
  rw [List.all_eq_true]
  intro x hx
  obtain ⟨y, hy, rfl⟩ := List.mem_map.1 hx
  have := (setF_ok f 1024).1.run y hy
  rw [validR_iff]; simp only; omega
theorem okay_setF (f : Nat → Bool) : Okay (setF f 1024) := fun x hx => (setF_ok f 1024).1.run x hx
end Go.Proofs.Ytnhbilcpdombfaa
