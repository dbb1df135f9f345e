/- The reference's Best. -/
import Derived.Test.YtocgdibadcmnfaaDoorBrFree
namespace Go.Proofs.YtocgdibadcmnfaaDoor
open Go.RowKit Go.Shelf
theorem bestF_take (size : Int) (m : Nat) (L : List (Nat × Nat)) (k : Nat) (h : k < L.length) : bestF size m (L.take (k + 1)) = bestStep size (bestF size m (L.take k)) L[k] := by
  rw [List.take_add_one, List.getElem?_eq_getElem h]
  exact bestF_snoc size m (L.take k) L[k]
/-- What the loop has found in the first k runs. -/
def BestAt (size : Int) (m : Nat) (L : List (Nat × Nat)) (k : Nat) (b : Int) : Prop := (b = -1 ∧ bestF size m (L.take k) = (0, (m : Int) + 1)) ∨ ∃ (j : Nat) (hj : j < L.length), j < k ∧ b = (j : Int) ∧ bestF size m (L.take k) = (((L[j]'hj).1 : Int), ((L[j]'hj).2 : Int) - ((L[j]'hj).1 : Int))
theorem bestAt_zero (size : Int) (m : Nat) (L : List (Nat × Nat)) : BestAt size m L 0 (-1) := .inl ⟨rfl, rfl⟩
set_option maxHeartbeats 2000000 in
set_option maxRecDepth 100000 in
theorem rBest_any (n : Int) (p : Option Addr) (cap : Nat) (ws : List Nat) (size : Int) (w : World) (h : WordsAt w p ws) (hsz : size ≤ 9223372036854775807) :
    Calls Tryd.prog 38 #[.agg #[.int .i64 n, .slice p ws.length cap], .int .i64 size] w (IntErr (bestR n ws size) w) := by
  have ck := fun W (hW : Below w.heap.size w W) => rcheck_any n p cap ws W (h.below hW)
  have e : bestR n ws size = if bestE n ws size ≠ 0 then (0, bestE n ws size) else bestL size n.toNat (runsL (bitN ws) false n.toNat 0) := rfl
  have ee : bestE n ws size = if checkR n ws ≠ 0 then checkR n ws else if size < 1 then 2 else 0 := rfl
  have hok := checkR_ok (n := n) h.lt
  have HW := Lib.hid h
  generalize checkR n ws = c at ck ee hok
  generalize bestR n ws size = r at e
  generalize bestE n ws size = er at e ee
  have CK := Lib.hid ck
  clear ck h
  by_cases hc : c ≠ 0
  · rw [if_pos hc] at ee
    subst ee
    rw [if_pos hc] at e
    have E := Lib.hid e
    obtain ⟨t1, t2⟩ := neq0 hc
    clear e hc hok hsz
    go_enter Tryd.func38, Tryd.ntmps38
    go_wp2_with (go_at_call 20; refine (CK.out _ ((Below.refl _ _).alloc (Nat.le_refl _) _)).mono ?_; rintro e w1 ⟨rfl, hb⟩; have HB1 := Lib.hid (boxB hb); clear hb)
    go_ret2
    exact intErr_mk E.out HB1.out
  · obtain rfl : c = 0 := Classical.not_not.1 hc
    rw [if_neg (by simp)] at ee
    by_cases h1 : size < 1
    · rw [if_pos h1] at ee
      subst ee
      rw [if_pos (by decide)] at e
      have E := Lib.hid e
      clear e hok hc hsz
      go_enter Tryd.func38, Tryd.ntmps38
      go_wp2_with (go_at_call 20; refine (CK.out _ ((Below.refl _ _).alloc (Nat.le_refl _) _)).mono ?_; rintro e w1 ⟨rfl, hb⟩; have HB1 := Lib.hid (boxB hb); clear hb)
      go_ret2
      exact intErr_mk E.out HB1.out
    · rw [if_neg h1] at ee
      subst ee
      rw [if_neg (by simp)] at e
      obtain ⟨hn0, hv⟩ := hok rfl
      obtain ⟨m, rfl⟩ : ∃ m : Nat, n = (m : Int) := ⟨n.toNat, by omega⟩
      rw [Int.toNat_natCast] at e
      rw [Int.toNat_natCast] at hv
      have hm := hv.le
      have hsp := (runsL_spec (bitN ws) false (Nat.zero_le m)).1
      have hln : (runsL (bitN ws) false m 0).length ≤ m + 1 := runsF_len _ _ _ _ _
      have cl := fun W (hW : Below w.heap.size w W) => rlist_any m p cap ws W (HW.out.below hW) hv
      unfold ListPost at cl
      have cr := fun pb cb W (hW : BoolsAt W pb (bitN ws) m) => rruns_any (bitN ws) false m pb cb W hm hW
      generalize runsL (bitN ws) false m 0 = L at e hsp hln cr
      have CL := Lib.hid cl; have E := Lib.hid e; have CR := Lib.hid cr; have HSP := Lib.hid hsp
      have q1 : ¬ size < 1 := h1
      have l4 : (L.length : Int) ≤ 4097 := by omega
      clear e cl cr hsp hok hv hc hn0 h1
      have HSZ := Lib.hid hsz
      clear hsz
      go_enter Tryd.func38, Tryd.ntmps38
      go_wp2_with fail
      refine (CK.out _ ((Below.refl _ _).alloc (Nat.le_refl _) _)).mono ?_
      rintro e w1 ⟨rfl, hb⟩
      have HB1 := Lib.hid (boxB hb); have HX1 := Lib.hid ((box0 w m (.slice p ws.length cap)).below hb)
      clear hb
      have c0 := HX1.out.c0; have c1 := HX1.out.c1
      go_wp2_with fail
      refine (CL.out _ HB1.out).mono ?_
      rintro e w2 ⟨v, rfl, hb, ho⟩
      obtain ⟨pb, cb, rfl, hbo⟩ := own_bools ho
      have HB2 := Lib.hid (HB1.out.trans (hb.mono HB1.out.size)); have HBO := Lib.hid hbo
      clear hb ho hbo c0 c1
      go_wp2_with fail
      refine (CR.out _ _ _ HBO.out).mono ?_
      rintro e w3 ⟨v, rfl, hb, ho⟩
      obtain ⟨pr, cr, rfl, hra⟩ := own_runsAt ho
      have HB3 := Lib.hid (HB2.out.trans (hb.mono HB2.out.size)); have HRA := Lib.hid hra
      clear hb ho hra
      go_wp2_with fail
      go_loopg [8, 9] L.length (fun n1 b i wr => ∃ (k : Nat) (bv : Int), k + n1 = L.length ∧ b = .int .i64 bv ∧ i = .int .i64 k ∧ Below w.heap.size w wr ∧ RunsAt wr pr L ∧ BestAt size m L k bv)
      case atStart => exact ⟨0, -1, by omega, rfl, rfl, HB3.out, HRA.out, bestAt_zero _ _ _⟩
      case round =>
        obtain ⟨k, bv, hkn, rfl, rfl, hbw, hraw, hba⟩ := hrel
        have HBW := Lib.hid hbw; have HRW := Lib.hid hraw
        clear hbw hraw HB3 HRA
        by_cases hlt : k < L.length
        · obtain ⟨n', rfl⟩ : ∃ n', gk = n' + 1 := ⟨gk - 1, by omega⟩
          obtain ⟨g, rfl, hg, hc⟩ := HRW.out (by omega)
          have hIk := HSP.out L[k] (List.getElem_mem hlt)
          have r1 := hIk.lt; have r2 := hIk.hi
          have htk := bestF_take size m L k hlt
          obtain ⟨c0, c1⟩ := hc k hlt
          have hBA : ∀ b', BestAt size m L (k + 1) b' ↔ BestAt size m L (k + 1) b' := fun _ => Iff.rfl
          have i1 : (k : Int) < L.length := by omega
          have k0 : (0 : Int) ≤ k := by omega
          have k4 : (k : Int) ≤ 4097 := by omega
          unfold bestStep at htk
          by_cases hfit : size ≤ ((L[k]'hlt).2 : Int) - ((L[k]'hlt).1 : Int)
          · rcases hba with ⟨rfl, hb⟩ | ⟨j, hj, hjk, rfl, hb⟩
            · rw [hb, if_pos ⟨hfit, by show _ < (m : Int) + 1; omega⟩] at htk
              have HN := Lib.hid (show BestAt size m L (k + 1) (k : Int) from .inr ⟨k, hlt, Nat.lt_succ_self k, rfl, htk⟩)
              clear htk hb hBA hIk hc
              generalize (L[k]'hlt).1 = x at c0 hfit r1 r2
              generalize (L[k]'hlt).2 = y at c1 hfit r1 r2
              have w1 : IntKind.i64.wrap ((y : Int) - (x : Int)) = (y : Int) - (x : Int) := IntWalk.i64_in _ (by omega)
              go_wp2_with fail
              go_quiet (fail)
              go_wp2_with fail
              go_roundg n'
              case measure => omega
              case rel => exact ⟨k + 1, k, by omega, rfl, by go_num, HBW.out.trans (drewB _ _ _), HRW.out.below (drewB _ _ _), HN.out⟩
            · obtain ⟨e0, e1⟩ := hc j hj
              have hIj := HSP.out L[j] (List.getElem_mem hj)
              have s1 := hIj.lt; have s2 := hIj.hi
              have j0 : (0 : Int) ≤ j := by omega
              have j1 : (j : Int) < L.length := by omega
              have j2 : ¬ (j : Int) < 0 := by omega
              rw [hb] at htk
              by_cases hless : ((L[k]'hlt).2 : Int) - ((L[k]'hlt).1 : Int) < ((L[j]'hj).2 : Int) - ((L[j]'hj).1 : Int)
              · rw [if_pos ⟨hfit, hless⟩] at htk
                have HN := Lib.hid (show BestAt size m L (k + 1) (k : Int) from .inr ⟨k, hlt, Nat.lt_succ_self k, rfl, htk⟩)
                clear htk hb hBA hIk hc hIj
                generalize (L[k]'hlt).1 = x at c0 hfit r1 r2 hless
                generalize (L[k]'hlt).2 = y at c1 hfit r1 r2 hless
                generalize (L[j]'hj).1 = x' at e0 s1 s2 hless
                generalize (L[j]'hj).2 = y' at e1 s1 s2 hless
                have w1 : IntKind.i64.wrap ((y : Int) - (x : Int)) = (y : Int) - (x : Int) := IntWalk.i64_in _ (by omega)
                have w2 : IntKind.i64.wrap ((y' : Int) - (x' : Int)) = (y' : Int) - (x' : Int) := IntWalk.i64_in _ (by omega)
                go_wp2_with fail
                go_quiet (fail)
                go_wp2_with fail
                go_roundg n'
                case measure => omega
                case rel => exact ⟨k + 1, k, by omega, rfl, by go_num, HBW.out.trans (drewB _ _ _), HRW.out.below (drewB _ _ _), HN.out⟩
              · rw [if_neg fun h => hless h.2] at htk
                have HN := Lib.hid (show BestAt size m L (k + 1) (j : Int) from .inr ⟨j, hj, by omega, rfl, htk⟩)
                clear htk hb hBA hIk hc hIj
                generalize (L[k]'hlt).1 = x at c0 hfit r1 r2 hless
                generalize (L[k]'hlt).2 = y at c1 hfit r1 r2 hless
                generalize (L[j]'hj).1 = x' at e0 s1 s2 hless
                generalize (L[j]'hj).2 = y' at e1 s1 s2 hless
                have w1 : IntKind.i64.wrap ((y : Int) - (x : Int)) = (y : Int) - (x : Int) := IntWalk.i64_in _ (by omega)
                have w2 : IntKind.i64.wrap ((y' : Int) - (x' : Int)) = (y' : Int) - (x' : Int) := IntWalk.i64_in _ (by omega)
                go_wp2_with fail
                go_quiet (fail)
                go_wp2_with fail
                go_roundg n'
                case measure => omega
                case rel => exact ⟨k + 1, j, by omega, rfl, by go_num, HBW.out.trans (drewB _ _ _), HRW.out.below (drewB _ _ _), HN.out⟩
          · rw [if_neg fun h => hfit h.1] at htk
            have HN := Lib.hid (show BestAt size m L (k + 1) bv from by
              rcases hba with ⟨e, hb⟩ | ⟨j, hj, hjk, e, hb⟩
              · exact .inl ⟨e, htk.trans hb⟩
              · exact .inr ⟨j, hj, by omega, e, htk.trans hb⟩)
            clear htk hba hBA hIk hc
            generalize (L[k]'hlt).1 = x at c0 hfit r1 r2
            generalize (L[k]'hlt).2 = y at c1 hfit r1 r2
            have w1 : IntKind.i64.wrap ((y : Int) - (x : Int)) = (y : Int) - (x : Int) := IntWalk.i64_in _ (by omega)
            have t1 : decide (size ≤ (y : Int) - (x : Int)) = false := decide_eq_false hfit
            have t2 : (y : Int) - (x : Int) < size := by omega
            go_wp2_with fail
            go_quiet (fail)
            go_wp2_with fail
            go_roundg n'
            case measure => omega
            case rel => exact ⟨k + 1, bv, by omega, rfl, by go_num, HBW.out.trans (drewB _ _ _), HRW.out.below (drewB _ _ _), HN.out⟩
        · obtain rfl : k = L.length := by omega
          have i1 : ¬ ((L.length : Nat) : Int) < (L.length : Int) := by omega
          rcases hba with ⟨rfl, hb⟩ | ⟨j, hj, hjk, rfl, hb⟩
          · rw [List.take_length] at hb
            have hf : bestL size m L = (0, 4) := by unfold bestL; rw [hb, if_pos (by show (m : Int) < (m : Int) + 1; omega)]
            have HF := Lib.hid (E.out.trans hf)
            clear hb hf
            go_wp2_with fail
            go_ret2
            exact intErr_mk HF.out HBW.out
          · rw [List.take_length] at hb
            obtain ⟨g, rfl, hg, hc⟩ := HRW.out (by omega)
            obtain ⟨e0, e1⟩ := hc j hj
            have hIj := HSP.out L[j] (List.getElem_mem hj)
            have s1 := hIj.lt; have s2 := hIj.hi
            have hf : bestL size m L = (((L[j]'hj).1 : Int), 0) := by unfold bestL; rw [hb, if_neg (by simp only; omega)]
            have HF := Lib.hid (E.out.trans hf)
            have j0 : (0 : Int) ≤ j := by omega
            have j1 : (j : Int) < L.length := by omega
            have j2 : ¬ (j : Int) < 0 := by omega
            clear hb hf hIj hc s1 s2 i1
            go_wp2_with fail
            go_ret2
            exact intErr_mk HF.out HBW.out
end Go.Proofs.YtocgdibadcmnfaaDoor
