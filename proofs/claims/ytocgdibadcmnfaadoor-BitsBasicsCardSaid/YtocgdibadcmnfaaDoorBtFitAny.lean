/- bits: Fit at any input. -/
import Derived.Test.YtocgdibadcmnfaaDoorBtFit
namespace Go.Proofs.YtocgdibadcmnfaaDoor
open Go.RowKit Go.Shelf

/-- What is wrong with the input of Fit. -/
def fitE (n : Int) (ws : List Nat) (size a : Int) : Int := if checkR n ws ≠ 0 then checkR n ws else if size < 1 then 2 else if a < 0 ∨ n < a then 7 else 0
theorem fitR_eq (n : Int) (ws : List Nat) (size a : Int) : fitR n ws size a = if fitE n ws size a ≠ 0 then (0, fitE n ws size a) else fitL size (runsL (bitN ws) false n.toNat a.toNat) := by
  unfold fitR fitE
  by_cases h1 : checkR n ws ≠ 0
  · simp [h1]
  · rw [if_neg h1, if_neg h1]
    by_cases h2 : size < 1
    · simp [h2]
    · rw [if_neg h2, if_neg h2]
      by_cases h3 : a < 0 ∨ n < a
      · simp [h3]
      · simp [h3]
set_option maxHeartbeats 2000000 in
set_option maxRecDepth 100000 in
theorem fit_any (n : Int) (p : Option Addr) (cap : Nat) (ws : List Nat) (size a : Int) (w : World) (h : WordsAt w p ws) (he : BEnv w) :
    Calls Tryd.prog 35 #[.agg #[.int .i64 n, .slice p ws.length cap], .int .i64 size, .int .i64 a] w (IntErr (fitR n ws size a) w) := by
  have ck := fun W (hW : Below w.heap.size w W) => check_any n p cap ws W (h.below hW)
  have e := fitR_eq n ws size a
  have ee : fitE n ws size a = if checkR n ws ≠ 0 then checkR n ws else if size < 1 then 2 else if a < 0 ∨ n < a then 7 else 0 := rfl
  have hok := checkR_ok (n := n) h.lt
  have HW := Lib.hid h; have HE := Lib.hid he
  generalize checkR n ws = c at ck ee hok
  generalize fitR n ws size a = r at e
  generalize fitE n ws size a = er at e ee
  have a4 := fun o1 o2 o3 o4 => alloc4 w o1 o2 o3 o4
  have A4 := Lib.hid a4
  clear a4 h he
  by_cases hgood : c = 0 ∧ 1 ≤ size ∧ 0 ≤ a ∧ a ≤ n
  · obtain ⟨rfl, hs, ha0, han⟩ := hgood
    obtain ⟨hn0, hv⟩ := hok rfl
    rw [if_neg (by simp), if_neg (by omega), if_neg (by omega)] at ee
    rw [ee, if_neg (by simp)] at e
    obtain ⟨m, rfl⟩ : ∃ m : Nat, n = (m : Int) := ⟨n.toNat, by omega⟩
    obtain ⟨k, rfl⟩ : ∃ k : Nat, a = (k : Int) := ⟨a.toNat, by omega⟩
    rw [Int.toNat_natCast, Int.toNat_natCast] at e
    rw [e]
    rw [Int.toNat_natCast] at hv
    exact callsIn_wide.1 (fit_in 3 m p cap ws size k w (Nat.le_refl _) HW.out hv hs (by omega) HE.out ck)
  · have hne : er ≠ 0 := by
      rw [ee]
      by_cases h1 : c ≠ 0
      · rw [if_pos h1]; exact h1
      · rw [if_neg h1]
        by_cases h2 : size < 1
        · rw [if_pos h2]; decide
        · rw [if_neg h2, if_pos (by omega)]; decide
    rw [if_pos hne] at e
    have E := Lib.hid e; have CK := Lib.hid ck
    clear e hne hok ck
    by_cases h1 : c ≠ 0
    · rw [if_pos h1] at ee
      subst ee
      obtain ⟨t1, t2⟩ := neq0 h1
      clear h1 hgood
      go_enter Tryd.func35, Tryd.ntmps35
      go_wp2_with (go_at_call 19; refine (CK.out _ (A4.out _ _ _ _).1).mono ?_; rintro e w1 ⟨rfl, hb⟩; obtain ⟨x1, x2, x3, x4, x5, x6⟩ := A4.out (.cells #[.int .i64 n, .slice p ws.length cap] 24) (.cells #[.int .i64 size] 3) (.cells #[.int .i64 0] 3) (.cells #[.int .i64 0] 29); have HFR := Lib.hid (Fr4.below ⟨x3, x4, x5, x6⟩ hb); have HB1 := Lib.hid (x1.trans (hb.mono (by omega))); obtain ⟨k3, f3⟩ := row1_cell HFR.out.b2; obtain ⟨k4, f4⟩ := row1_cell HFR.out.b3; clear hb x1 x2 x3 x4 x5 x6)
      refine bodyPost_ret (v := .tuple #[.int .i64 0, .int .i64 er]) (by simp [results, Tryd.results35, go_sem, k3, f3, k4, f4]) rfl ?_
      exact intErr_mk E.out (set1B (set1B HB1.out (by omega) _) (by omega) _)
    · obtain rfl : c = 0 := Classical.not_not.1 h1
      rw [if_neg h1] at ee
      by_cases h2 : size < 1
      · rw [if_pos h2] at ee
        subst ee
        clear hgood h1
        go_enter Tryd.func35, Tryd.ntmps35
        go_wp2_with (go_at_call 19; refine (CK.out _ (A4.out _ _ _ _).1).mono ?_; rintro e w1 ⟨rfl, hb⟩; obtain ⟨x1, x2, x3, x4, x5, x6⟩ := A4.out (.cells #[.int .i64 n, .slice p ws.length cap] 24) (.cells #[.int .i64 size] 3) (.cells #[.int .i64 0] 3) (.cells #[.int .i64 0] 29); have HFR := Lib.hid (Fr4.below ⟨x3, x4, x5, x6⟩ hb); have HB1 := Lib.hid (x1.trans (hb.mono (by omega))); obtain ⟨k3, f3⟩ := row1_cell HFR.out.b2; obtain ⟨k4, f4⟩ := row1_cell HFR.out.b3; have c2 := (row1_cell HFR.out.b1).1; clear hb x1 x2 x3 x4 x5 x6)
        refine bodyPost_ret (v := .tuple #[.int .i64 0, .int .i64 2]) (by simp [results, Tryd.results35, go_sem, k3, f3, k4, f4]) rfl ?_
        exact intErr_mk E.out (set1B (set1B HB1.out (by omega) _) (by omega) _)
      · rw [if_neg h2, if_pos (by omega)] at ee
        subst ee
        have h4 : a < 0 ∨ (¬ a < 0 ∧ n < a) := by omega
        clear hgood h1
        rcases h4 with h4 | ⟨h4, h5⟩
        all_goals
          go_enter Tryd.func35, Tryd.ntmps35
          go_wp2_with (go_at_call 19; refine (CK.out _ (A4.out _ _ _ _).1).mono ?_; rintro e w1 ⟨rfl, hb⟩; obtain ⟨x1, x2, x3, x4, x5, x6⟩ := A4.out (.cells #[.int .i64 n, .slice p ws.length cap] 24) (.cells #[.int .i64 size] 3) (.cells #[.int .i64 0] 3) (.cells #[.int .i64 0] 29); have HFR := Lib.hid (Fr4.below ⟨x3, x4, x5, x6⟩ hb); have HB1 := Lib.hid (x1.trans (hb.mono (by omega))); obtain ⟨k3, f3⟩ := row1_cell HFR.out.b2; obtain ⟨k4, f4⟩ := row1_cell HFR.out.b3; have c2 := (row1_cell HFR.out.b1).1; have c0 := row_cell (i := 0) (v := .int .i64 n) HFR.out.b0 rfl; clear hb x1 x2 x3 x4 x5 x6)
          refine bodyPost_ret (v := .tuple #[.int .i64 0, .int .i64 7]) (by simp [results, Tryd.results35, go_sem, k3, f3, k4, f4]) rfl ?_
          exact intErr_mk E.out (set1B (set1B HB1.out (by omega) _) (by omega) _)
end Go.Proofs.YtocgdibadcmnfaaDoor
