/- The reference's Check. -/
import Derived.Test.YtnhbilcpdombfaaSpRef
namespace Go.Proofs.Ytnhbilcpdombfaa
open Go.RowKit

set_option maxHeartbeats 2000000 in
set_option maxRecDepth 100000 in
theorem rcheck_any (l : List (Int × Int)) (p : Option Addr) (cap : Nat) (w : World) (h : SpsAt w p l) :
    Calls Try.prog 16 #[.slice p l.length cap] w (ErrPost (checkR l) w) := by
  have hlm := h.len
  unfold maxLen at hlm
  have e : checkR l = if listR l 512 ≠ 0 then listR l 512 else if gapsR l l.length then 0 else 6 := rfl
  have el : listR l 512 = if 512 < l.length then 3 else if l.all validR then 0 else 7 := rfl
  have HW := Lib.hid h
  clear h
  by_cases h1 : 512 < l.length
  · rw [if_pos h1] at el
    rw [el, if_pos (by decide)] at e
    have E := Lib.hid e
    have i1 : (512 : Int) < l.length := by omega
    clear e el
    go_enter Try.func16, Try.ntmps16
    go_wp2_with fail
    go_ret
    exact errPost_mk E.out (Below.refl _ _)
  · rw [if_neg h1] at el
    have E := Lib.hid e; have EL := Lib.hid el
    have i1 : ¬ (512 : Int) < l.length := by omega
    have l4 : (l.length : Int) ≤ 512 := by omega
    clear e el
    go_enter Try.func16, Try.ntmps16
    go_wp2_with fail
    go_loopg [3] l.length (fun n1 i wr => ∃ k : Nat, k + n1 = l.length ∧ i = .int .i64 k ∧ Below w.heap.size w wr ∧ (l.take k).all validR = true)
    case atStart => exact ⟨0, by omega, by go_num, Below.refl _ _, by simp⟩
    case round =>
      obtain ⟨k, hkn, rfl, hbw, hall⟩ := hrel
      have HB := Lib.hid hbw; have HALL := Lib.hid hall
      clear hbw hall
      have k0 : (0 : Int) ≤ k := by omega
      by_cases hlt : k < l.length
      · obtain ⟨n', rfl⟩ : ∃ n', gk = n' + 1 := ⟨gk - 1, by omega⟩
        obtain ⟨g, off, rfl, hg, hc⟩ := (HW.out.below HB.out).at_ (by omega)
        obtain ⟨c0, c1⟩ := hc k hlt
        have hft := HW.out.fit _ (List.getElem_mem hlt)
        have hts := take_all_succ validR l k hlt
        have hno := fun h => all_no (P := validR) hlt h
        have i2 : (k : Int) < l.length := by omega
        have hxy : l[k]'hlt = ((l[k]'hlt).1, (l[k]'hlt).2) := rfl
        rw [hxy] at hft hts hno
        generalize (l[k]'hlt).1 = x at c0 hft hts hno
        generalize (l[k]'hlt).2 = y at c1 hft hts hno
        have cv := fun W => rvalid_any x y W hft
        rw [HALL.out, Bool.true_and] at hts
        unfold BoolPost at cv
        clear hc hxy hft
        cases hv : validR (x, y)
        · have HF := Lib.hid (show checkR l = 7 by rw [E.out, EL.out, hno hv]; rfl)
          rw [hv] at cv
          have CV := Lib.hid cv
          clear cv hts hno hv
          go_wp2_with (go_at_call 49; refine (CV.out _).mono ?_; rintro e w' ⟨rfl, hb⟩; have HB2 := Lib.hid (below_next HB.out hb); clear hb)
          go_ret
          exact errPost_mk HF.out HB2.out
        · rw [hv] at cv hts
          have CV := Lib.hid cv; have HTS := Lib.hid hts
          clear cv hts hno hv
          go_wp2_with (go_at_call 49; refine (CV.out _).mono ?_; rintro e w' ⟨rfl, hb⟩; have HB2 := Lib.hid (below_next HB.out hb); clear hb)
          go_roundg n'
          case measure => omega
          case rel => exact ⟨k + 1, by omega, by go_num, HB2.out, HTS.out⟩
      · obtain rfl : k = l.length := by omega
        have hva : l.all validR = true := by have := HALL.out; rwa [List.take_length] at this
        have hel : listR l 512 = 0 := by rw [EL.out, hva]; rfl
        have HE := Lib.hid (show checkR l = if gapsR l l.length then 0 else 6 by rw [E.out, hel]; rfl)
        have HV := Lib.hid (List.all_eq_true.1 hva)
        have i2 : ¬ ((l.length : Nat) : Int) < l.length := by omega
        clear hva hel E EL HALL
        go_wp2_with fail
        go_loopg [4] l.length (fun n1 i W => ∃ k : Nat, k + n1 = l.length + 1 ∧ 1 ≤ k ∧ (k ≤ l.length ∨ k = 1) ∧ i = .int .i64 k ∧ Below w.heap.size w W ∧ gapsR l k = true)
        case atStart => exact ⟨1, by omega, Nat.le_refl _, .inr rfl, rfl, HB.out, rfl⟩
        case round =>
          clear HB i2
          obtain ⟨k, hkn, hk1, hkl, rfl, hbw, hall⟩ := hrel
          have HB := Lib.hid hbw; have HALL := Lib.hid hall
          clear hbw hall
          have k0 : (0 : Int) ≤ k := by omega
          by_cases hlt : k < l.length
          · obtain ⟨n', rfl⟩ : ∃ n', gk = n' + 1 := ⟨gk - 1, by omega⟩
            obtain ⟨j, hj⟩ : ∃ j, k = j + 1 := ⟨k - 1, by omega⟩
            have hjl : j < l.length := by omega
            obtain ⟨g, off, rfl, hg, hc⟩ := (HW.out.below HB.out).at_ (by omega)
            obtain ⟨c0, _⟩ := hc k hlt
            obtain ⟨d0, d1⟩ := hc j hjl
            obtain ⟨w1', w2', w3'⟩ := wrapN k j hj (by omega)
            have hs := gapsR_succ l k
            have hkz : (k == 0) = false := by simp; omega
            rw [HALL.out, hkz, Bool.true_and, Bool.false_or, show k - 1 = j by omega, List.getElem?_eq_getElem hlt, List.getElem?_eq_getElem hjl, Option.getD_some, Option.getD_some] at hs
            have hv1 := (validR_iff _).1 (HV.out _ (List.getElem_mem hlt))
            have hv2 := (validR_iff _).1 (HV.out _ (List.getElem_mem hjl))
            have hno := fun h => gapsR_no (l := l) (k := k + 1) (m := l.length) h hlt
            rw [hs] at hno
            generalize (l[k]'hlt).1 = x at c0 hs hv1 hno
            generalize (l[j]'hjl).1 = x' at d0 hs hv2 hno
            generalize (l[j]'hjl).2 = y' at d1 hs hv2 hno
            have e1 : IntKind.i64.wrap (x' + y') = x' + y' := IntWalk.i64_in _ (by omega)
            have HS := Lib.hid hs; have HNO := Lib.hid hno; have HJ := Lib.hid hj
            have i2 : (k : Int) < l.length := by omega
            have j0 : (0 : Int) ≤ j := by omega
            have j1 : (j : Int) < l.length := by omega
            clear hs hno hkz hc hj
            by_cases hle : x ≤ x' + y'
            · have HF := Lib.hid (show checkR l = 6 by rw [HE.out, HNO.out (by simp; omega)]; rfl)
              go_wp2_with fail
              go_quiet (fail)
              go_wp2_with fail
              go_ret
              exact errPost_mk HF.out (HB.out.trans (drewB _ _ _))
            · have HG := Lib.hid (show gapsR l (k + 1) = true by rw [HS.out]; simp; omega)
              go_wp2_with fail
              go_quiet (fail)
              go_wp2_with fail
              go_roundg n'
              case measure => omega
              case rel => exact ⟨k + 1, by omega, by omega, .inl (by omega), by go_num, HB.out.trans (drewB _ _ _), HG.out⟩
          · have hg : gapsR l l.length = true := by
              rcases hkl with h | h
              · rw [show l.length = k by omega]; exact HALL.out
              · have h0 := HALL.out
                rw [h] at h0
                rcases Nat.lt_or_ge l.length 1 with h2 | h2
                · rw [show l.length = 0 by omega]; rfl
                · rw [show l.length = 1 by omega]; exact h0
            have HF := Lib.hid (show checkR l = 0 by rw [HE.out, hg]; rfl)
            have i2 : ¬ (k : Int) < l.length := by omega
            clear hg
            go_wp2_with fail
            go_ret
            exact errPost_mk HF.out HB.out
end Go.Proofs.Ytnhbilcpdombfaa
