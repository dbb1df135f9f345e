/- The law's place and within. -/
import Derived.Test.YtnhbilcpdombfaaSpRBest
import Derived.Test.YtnhbilcpdombfaaSpSome
namespace Go.Proofs.Ytnhbilcpdombfaa
open Go.RowKit

theorem any_up (s : List (Nat × Nat)) (m p : Nat) : (up s).any (hitHas ((p : Int), (m : Int))) = s.any (fun y => decide (y.1 ≤ p) && decide (p + m ≤ y.1 + y.2)) := by
  unfold up
  rw [List.any_map]
  congr 1
  funext y
  unfold hitHas
  simp only [Function.comp]
  congr 1
  · rw [decide_eq_decide]; omega
  · rw [decide_eq_decide]; omega
theorem withR_mk0 {l : List (Int × Int)} {x : Int × Int} (h : checkR l = 0) (hv : validR x = true) : withR l x = 0 := by
  unfold withR; rw [h, hv]; simp
theorem fits_nat {p m : Nat} (h1 : p ≤ 1024) (h2 : m ≤ 1024) : Fits ((p : Int), (m : Int)) := ⟨by simp only; omega, by simp only; omega⟩
set_option maxHeartbeats 4000000 in
set_option maxRecDepth 100000 in
theorem place_any (s : List (Nat × Nat)) (q : Option Addr) (cap : Nat) (p m al : Nat) (w : World) (h : SpsAt w q (up s)) (hck : checkR (up s) = 0) (hs : IsSet 1024 s) (hp : p < 1024) (hm1 : 1 ≤ m) (hm : m ≤ 1024) (ha1 : 1 ≤ al) (ha2 : al ≤ 1024) :
    Calls Try.prog 43 #[.slice q s.length cap, .int .i64 (p : Int), .agg #[.int .i64 (m : Int), .int .i64 (al : Int)]] w (BoolPost (isP s m al p) w) := by
  have HBE := Lib.hid (show Below w.heap.size w (w.alloc (.cells #[.int .i64 (m : Int), .int .i64 (al : Int)] 58)) from (Below.refl _ _).alloc (Nat.le_refl _) _)
  have hb0 := heap_alloc_new w (.cells #[.int .i64 (m : Int), .int .i64 (al : Int)] 58)
  have HX := Lib.hid (show XAt (w.alloc (.cells #[.int .i64 (m : Int), .int .i64 (al : Int)] 58)) w.heap.size m al from ⟨row_cell hb0 rfl, row_cell hb0 rfl⟩)
  obtain ⟨r, hr⟩ : ∃ r, r = isP s m al p := ⟨_, rfl⟩
  rw [← hr]
  have hup := any_up s m p
  have hisp : isP s m al p = (s.any (fun y => decide (y.1 ≤ p) && decide (p + m ≤ y.1 + y.2)) && decide (p % al = 0)) := rfl
  rw [← hup] at hisp
  rw [hisp] at hr
  obtain ⟨rm, hrm⟩ : ∃ rm, rm = p % al := ⟨_, rfl⟩
  have hr1 : Int.tmod (p : Int) (al : Int) = (rm : Int) := by rw [hrm]; exact (Int.ofNat_tmod p al).symm
  have hr2 : rm ≤ 1024 := by have := Nat.mod_lt p (show al > 0 by omega); omega
  have hr3 : IntKind.i64.wrap (rm : Int) = (rm : Int) := IntWalk.i64_in _ (by omega)
  rw [← hrm] at hr
  have z0 : ¬ (al : Int) = 0 := by omega
  have t0 : ¬ (p : Int) < 0 := by omega
  have t1 : ¬ (1024 : Int) ≤ (p : Int) := by omega
  have t2 : ¬ (m : Int) < 1 := by omega
  have t3 : ¬ (al : Int) < 1 := by omega
  have w1 : IntKind.i64.wrap (1024 - (p : Int)) = 1024 - (p : Int) := IntWalk.i64_in _ (by omega)
  have P0 : (0 : Int) ≤ p := by omega
  have HR := Lib.hid hr; have HW := Lib.hid h
  clear hb0 hup hisp hrm hr
  by_cases hmp : m + p ≤ 1024
  · have t4 : ¬ (1024 - (p : Int)) < (m : Int) := by omega
    by_cases hz : rm = 0
    · have t5 : ((rm : Int) != 0) = false := by rw [hz]; rfl
      have t6 : ((rm : Int) == 0) = true := by rw [hz]; rfl
      have hhas := fun W (hW : Below w.heap.size w W) => has_any (up s) q cap (p : Int) (m : Int) W (h.below hW) (fits_nat (by omega) hm)
      have hv : validR ((p : Int), (m : Int)) = true := (validR_iff _).2 (by simp only; omega)
      have e : hasR (up s) ((p : Int), (m : Int)) = ((up s).any (hitHas ((p : Int), (m : Int))), 0) := by
        unfold hasR; rw [withR_mk0 hck hv]; simp
      rw [e] at hhas
      unfold BoolErr at hhas
      rw [up_len] at hhas
      have HF := Lib.hid (show r = (up s).any (hitHas ((p : Int), (m : Int))) by rw [HR.out, hz]; simp)
      generalize (up s).any (hitHas ((p : Int), (m : Int))) = v at hhas HF
      have HH := Lib.hid hhas
      clear hhas hv e h hck hs hz HR
      go_enter Try.func43, Try.ntmps43
      have x0 := HX.out.c0
      have x1 := HX.out.c1
      go_wp2_with fail
      refine (HH.out _ HBE.out).mono ?_
      rintro e w2 ⟨rfl, hb⟩
      have HB2 := Lib.hid (below_next HBE.out hb)
      clear hb x0 x1
      cases v
      all_goals
        go_wp2_with fail
        go_ret
        exact boolPost_mk HF.out HB2.out
    · have t5 : ((rm : Int) != 0) = true := by rw [bne_iff_ne]; omega
      have t6 : ((rm : Int) == 0) = false := beq_eq_false_iff_ne.2 (by omega)
      have HF := Lib.hid (show r = false by rw [HR.out, decide_eq_false hz, Bool.and_false])
      clear h hck hs hz HR
      go_enter Try.func43, Try.ntmps43
      have x0 := HX.out.c0
      have x1 := HX.out.c1
      go_wp2_with fail
      go_ret
      exact boolPost_mk HF.out HBE.out
  · have t4 : (1024 - (p : Int)) < (m : Int) := by omega
    have HF := Lib.hid (show r = false by
      rw [HR.out, any_up]
      have : s.any (fun y => decide (y.1 ≤ p) && decide (p + m ≤ y.1 + y.2)) = false := by
        rw [List.any_eq_false]
        intro y hy
        have := (hs.run y hy).2
        simp; omega
      rw [this, Bool.false_and])
    clear h hck hs HR
    go_enter Try.func43, Try.ntmps43
    have x0 := HX.out.c0
    have x1 := HX.out.c1
    go_wp2_with fail
    go_ret
    exact boolPost_mk HF.out HBE.out
theorem within_take {s : List (Nat × Nat)} {p : Nat} : ∀ {j : Nat} (hj : j < s.length), withinN (s.take j) p = 0 → (∀ y ∈ s.take j, ¬ (y.1 ≤ p ∧ p < y.1 + y.2)) → (s[j]'hj).1 ≤ p → p < (s[j]'hj).1 + (s[j]'hj).2 → withinN s p = (s[j]'hj).2 := by
  intro j hj _ hn h1 h2
  unfold withinN
  have e : s = s.take j ++ (s[j]'hj) :: s.drop (j + 1) := by
    rw [← List.drop_eq_getElem_cons hj, List.take_append_drop]
  have : s.find? (fun y => decide (y.1 ≤ p) && decide (p < y.1 + y.2)) = some (s[j]'hj) := by
    conv => lhs; rw [e]
    rw [List.find?_append, List.find?_eq_none.2 (fun y hy => by have := hn y hy; simpa using this)]
    rw [List.find?_cons]
    simp [h1, h2]
  rw [this]
set_option maxHeartbeats 4000000 in
set_option maxRecDepth 100000 in
theorem within_any (s : List (Nat × Nat)) (q : Option Addr) (cap : Nat) (p : Nat) (w : World) (h : SpsAt w q (up s)) (hs : IsSet 1024 s) (hl : s.length ≤ 512) (hp : p < 1024) :
    Calls Try.prog 44 #[.slice q s.length cap, .int .i64 (p : Int)] w (ErrPost (withinN s p : Int) w) := by
  obtain ⟨r, hr⟩ : ∃ r : Int, r = (withinN s p : Int) := ⟨_, rfl⟩
  rw [← hr]
  have HR := Lib.hid hr; have HW := Lib.hid h; have HS := Lib.hid hs
  clear hr h hs
  have l4 : (s.length : Int) ≤ 512 := by omega
  have P0 : (0 : Int) ≤ p := by omega
  have P1 : (p : Int) < 1024 := by omega
  go_enter Try.func44, Try.ntmps44
  go_wp2_with fail
  go_loopg [5] s.length (fun n1 i W => ∃ j : Nat, j + n1 = s.length ∧ i = .int .i64 j ∧ Below w.heap.size w W ∧ ∀ y ∈ s.take j, ¬ (y.1 ≤ p ∧ p < y.1 + y.2))
  case atStart => exact ⟨0, by omega, by go_num, Below.refl _ _, by simp⟩
  case round =>
    obtain ⟨j, hjn, rfl, hbw, hno⟩ := hrel
    have HBW := Lib.hid hbw; have HNO := Lib.hid hno
    clear hbw hno
    have j0 : (0 : Int) ≤ j := by omega
    by_cases hlt : j < s.length
    · obtain ⟨n', rfl⟩ : ∃ n', gk = n' + 1 := ⟨gk - 1, by omega⟩
      obtain ⟨g, off, rfl, hg, hc⟩ := (HW.out.below HBW.out).at_ (by rw [up_len]; omega)
      obtain ⟨x0, x1⟩ := hc j (by rw [up_len]; exact hlt)
      rw [up_get] at x0 x1
      have hrun := HS.out.run _ (List.getElem_mem hlt)
      have htk : s.take (j + 1) = s.take j ++ [s[j]'hlt] := by rw [List.take_add_one, List.getElem?_eq_getElem hlt]; rfl
      have hyes := fun h1 h2 => within_take (p := p) hlt (by
        unfold withinN
        rw [List.find?_eq_none.2 (fun y hy => by have := HNO.out y hy; simpa using this)]) HNO.out h1 h2
      have i2 : (j : Int) < s.length := by omega
      have hnext : ¬ ((s[j]'hlt).1 ≤ p ∧ p < (s[j]'hlt).1 + (s[j]'hlt).2) → ∀ y ∈ s.take (j + 1), ¬ (y.1 ≤ p ∧ p < y.1 + y.2) := by
        intro hn y hy
        rw [htk] at hy
        rcases List.mem_append.1 hy with hy | hy
        · exact HNO.out y hy
        · rw [List.mem_singleton.1 hy]; exact hn
      generalize s[j]'hlt = x at x0 x1 hrun hyes hnext
      obtain ⟨a, b⟩ := x
      simp only at x0 x1 hrun hyes hnext
      have HY := Lib.hid hyes; have HN := Lib.hid hnext
      have w1 : IntKind.i64.wrap ((p : Int) - (a : Int)) = (p : Int) - (a : Int) := IntWalk.i64_in _ (by omega)
      clear hc htk hyes hnext
      by_cases h1 : a ≤ p
      · have t1 : (a : Int) ≤ (p : Int) := by omega
        by_cases h2 : p < a + b
        · have t2 : (p : Int) - (a : Int) < (b : Int) := by omega
          have HF := Lib.hid (show r = (b : Int) by rw [HR.out, HY.out h1 h2])
          go_wp2_with fail
          go_quiet (fail)
          go_wp2_with fail
          go_ret
          exact errPost_mk HF.out (HBW.out.trans (drewB _ _ _))
        · have t2 : ¬ (p : Int) - (a : Int) < (b : Int) := by omega
          have HF := Lib.hid (HN.out (by omega))
          go_wp2_with fail
          go_quiet (fail)
          go_wp2_with fail
          go_roundg n'
          case measure => omega
          case rel => exact ⟨j + 1, by omega, by go_num, HBW.out.trans (drewB _ _ _), HF.out⟩
      · have t1 : ¬ (a : Int) ≤ (p : Int) := by omega
        have HF := Lib.hid (HN.out (by omega))
        go_wp2_with fail
        go_quiet (fail)
        go_wp2_with fail
        go_roundg n'
        case measure => omega
        case rel => exact ⟨j + 1, by omega, by go_num, HBW.out.trans (drewB _ _ _), HF.out⟩
    · obtain rfl : j = s.length := by omega
      have i2 : ¬ ((s.length : Nat) : Int) < s.length := by omega
      have hno := HNO.out
      rw [List.take_length] at hno
      have HF := Lib.hid (show r = 0 by
        rw [HR.out]
        unfold withinN
        rw [List.find?_eq_none.2 (fun y hy => by have := hno y hy; simpa using this)]
        rfl)
      clear hno
      go_wp2_with fail
      go_ret
      exact errPost_mk HF.out HBW.out
end Go.Proofs.Ytnhbilcpdombfaa
