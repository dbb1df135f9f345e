/- links: the reference's sizes: the same answer as sizesFit. -/
import Derived.Test.YtmelcohfjonjfaaLcSlot
namespace Go.Proofs.Ytmelcohfjonjfaa
open Go.RowKit

set_option maxHeartbeats 4000000 in
set_option maxRecDepth 100000 in
theorem rsizes_any (W : World) (s : SP) : Calls Try.prog 56 #[s.val] W (BoolPost s.fits W) := by
  have HB := Lib.hid ((Below.refl W.heap.size W).alloc (Nat.le_refl _) (.cells s.cells 39))
  obtain ⟨b0, b1, b2, b3, b4, b5⟩ := sp_box W s
  obtain ⟨r, hr⟩ : ∃ r, r = s.fits := ⟨_, rfl⟩
  rw [← hr]
  have hd : s.fits = decide ((1 ≤ (s.kl : Int) ∧ (s.kl : Int) ≤ 2000 ∧ (s.kv : Int) = s.kl ∧ (s.kn : Int) = s.kl ∧ (s.kp : Int) = s.kl ∧ 1 ≤ (s.kf : Int) ∧ (s.kf : Int) ≤ 64 ∧ (s.ka : Int) = s.kf)) := by
    unfold SP.fits countsR
    rw [Bool.eq_iff_iff]
    simp only [Bool.and_eq_true, decide_eq_true_eq]
    omega
  rw [hd] at hr
  clear hd
  unfold SP.val SP.cells at *
  generalize s.pv = pv at *; generalize s.pl = pl at *; generalize s.pn = pn at *; generalize s.pp = pp at *; generalize s.pf = pf at *; generalize s.pa = pa at *
  generalize s.kv = kv at *; generalize s.kl = kl at *; generalize s.kn = kn at *; generalize s.kp = kp at *; generalize s.kf = kf at *; generalize s.ka = ka at *
  generalize s.cv = cv at *; generalize s.cl = cl at *; generalize s.cn = cn at *; generalize s.cp = cp at *; generalize s.cf = cf at *; generalize s.ca = ca at *
  by_cases h0 : (1 : Int) ≤ kl
  · by_cases h1 : (kl : Int) ≤ 2000
    · by_cases h2 : (kv : Int) = (kl : Int)
      · by_cases h3 : (kn : Int) = (kl : Int)
        · by_cases h4 : (kp : Int) = (kl : Int)
          · by_cases h5 : (1 : Int) ≤ kf
            · by_cases h6 : (kf : Int) ≤ 64
              · by_cases h7 : (ka : Int) = (kf : Int)
                · have e : r = true := by rw [hr]; exact decide_eq_true (by omega)
                  subst e
                  clear hr
                  have u2 : ((kv : Int) == (kl : Int)) = true := beq_iff_eq.2 h2
                  have u3 : ((kn : Int) == (kl : Int)) = true := beq_iff_eq.2 h3
                  have u4 : ((kp : Int) == (kl : Int)) = true := beq_iff_eq.2 h4
                  have u7 : ((ka : Int) == (kf : Int)) = true := beq_iff_eq.2 h7
                  clear h2 h3 h4 h7
                  go_enter Try.func56, Try.ntmps56
                  go_wp2_with fail
                  generalize W.alloc (.cells #[.slice pv kv cv, .slice pl kl cl, .slice pn kn cn, .slice pp kp cp, .slice pf kf cf, .slice pa ka ca] 39) = V at *
                  generalize hK : W.heap.size = K at *
                  have HK := Lib.hid hK
                  clear hK
                  go_region
                  go_wp2_with fail
                  go_ret
                  exact ⟨rfl, by rw [HK.out]; exact HB.out.drew⟩
                · have e : r = false := by rw [hr]; exact decide_eq_false (by omega)
                  subst e
                  clear hr
                  have u2 : ((kv : Int) == (kl : Int)) = true := beq_iff_eq.2 h2
                  have u3 : ((kn : Int) == (kl : Int)) = true := beq_iff_eq.2 h3
                  have u4 : ((kp : Int) == (kl : Int)) = true := beq_iff_eq.2 h4
                  have u7 : ((ka : Int) == (kf : Int)) = false := beq_eq_false_iff_ne.2 h7
                  clear h2 h3 h4 h7
                  go_enter Try.func56, Try.ntmps56
                  go_wp2_with fail
                  generalize W.alloc (.cells #[.slice pv kv cv, .slice pl kl cl, .slice pn kn cn, .slice pp kp cp, .slice pf kf cf, .slice pa ka ca] 39) = V at *
                  generalize hK : W.heap.size = K at *
                  have HK := Lib.hid hK
                  clear hK
                  go_region
                  go_wp2_with fail
                  go_ret
                  exact ⟨rfl, by rw [HK.out]; exact HB.out.drew⟩
              · have e : r = false := by rw [hr]; exact decide_eq_false (by omega)
                subst e
                clear hr
                have u2 : ((kv : Int) == (kl : Int)) = true := beq_iff_eq.2 h2
                have u3 : ((kn : Int) == (kl : Int)) = true := beq_iff_eq.2 h3
                have u4 : ((kp : Int) == (kl : Int)) = true := beq_iff_eq.2 h4
                clear h2 h3 h4
                go_enter Try.func56, Try.ntmps56
                go_wp2_with fail
                generalize W.alloc (.cells #[.slice pv kv cv, .slice pl kl cl, .slice pn kn cn, .slice pp kp cp, .slice pf kf cf, .slice pa ka ca] 39) = V at *
                generalize hK : W.heap.size = K at *
                have HK := Lib.hid hK
                clear hK
                go_region
                go_wp2_with fail
                go_ret
                exact ⟨rfl, by rw [HK.out]; exact HB.out.drew⟩
            · have e : r = false := by rw [hr]; exact decide_eq_false (by omega)
              subst e
              clear hr
              have u2 : ((kv : Int) == (kl : Int)) = true := beq_iff_eq.2 h2
              have u3 : ((kn : Int) == (kl : Int)) = true := beq_iff_eq.2 h3
              have u4 : ((kp : Int) == (kl : Int)) = true := beq_iff_eq.2 h4
              clear h2 h3 h4
              go_enter Try.func56, Try.ntmps56
              go_wp2_with fail
              generalize W.alloc (.cells #[.slice pv kv cv, .slice pl kl cl, .slice pn kn cn, .slice pp kp cp, .slice pf kf cf, .slice pa ka ca] 39) = V at *
              generalize hK : W.heap.size = K at *
              have HK := Lib.hid hK
              clear hK
              go_region
              go_wp2_with fail
              go_ret
              exact ⟨rfl, by rw [HK.out]; exact HB.out.drew⟩
          · have e : r = false := by rw [hr]; exact decide_eq_false (by omega)
            subst e
            clear hr
            have u2 : ((kv : Int) == (kl : Int)) = true := beq_iff_eq.2 h2
            have u3 : ((kn : Int) == (kl : Int)) = true := beq_iff_eq.2 h3
            have u4 : ((kp : Int) == (kl : Int)) = false := beq_eq_false_iff_ne.2 h4
            clear h2 h3 h4
            go_enter Try.func56, Try.ntmps56
            go_wp2_with fail
            generalize W.alloc (.cells #[.slice pv kv cv, .slice pl kl cl, .slice pn kn cn, .slice pp kp cp, .slice pf kf cf, .slice pa ka ca] 39) = V at *
            generalize hK : W.heap.size = K at *
            have HK := Lib.hid hK
            clear hK
            go_region
            go_wp2_with fail
            go_ret
            exact ⟨rfl, by rw [HK.out]; exact HB.out.drew⟩
        · have e : r = false := by rw [hr]; exact decide_eq_false (by omega)
          subst e
          clear hr
          have u2 : ((kv : Int) == (kl : Int)) = true := beq_iff_eq.2 h2
          have u3 : ((kn : Int) == (kl : Int)) = false := beq_eq_false_iff_ne.2 h3
          clear h2 h3
          go_enter Try.func56, Try.ntmps56
          go_wp2_with fail
          generalize W.alloc (.cells #[.slice pv kv cv, .slice pl kl cl, .slice pn kn cn, .slice pp kp cp, .slice pf kf cf, .slice pa ka ca] 39) = V at *
          generalize hK : W.heap.size = K at *
          have HK := Lib.hid hK
          clear hK
          go_region
          go_wp2_with fail
          go_ret
          exact ⟨rfl, by rw [HK.out]; exact HB.out.drew⟩
      · have e : r = false := by rw [hr]; exact decide_eq_false (by omega)
        subst e
        clear hr
        have u2 : ((kv : Int) == (kl : Int)) = false := beq_eq_false_iff_ne.2 h2
        clear h2
        go_enter Try.func56, Try.ntmps56
        go_wp2_with fail
        generalize W.alloc (.cells #[.slice pv kv cv, .slice pl kl cl, .slice pn kn cn, .slice pp kp cp, .slice pf kf cf, .slice pa ka ca] 39) = V at *
        generalize hK : W.heap.size = K at *
        have HK := Lib.hid hK
        clear hK
        go_region
        go_wp2_with fail
        go_ret
        exact ⟨rfl, by rw [HK.out]; exact HB.out.drew⟩
    · have e : r = false := by rw [hr]; exact decide_eq_false (by omega)
      subst e
      clear hr
      go_enter Try.func56, Try.ntmps56
      go_wp2_with fail
      generalize W.alloc (.cells #[.slice pv kv cv, .slice pl kl cl, .slice pn kn cn, .slice pp kp cp, .slice pf kf cf, .slice pa ka ca] 39) = V at *
      generalize hK : W.heap.size = K at *
      have HK := Lib.hid hK
      clear hK
      go_region
      go_wp2_with fail
      go_ret
      exact ⟨rfl, by rw [HK.out]; exact HB.out.drew⟩
  · have e : r = false := by rw [hr]; exact decide_eq_false (by omega)
    subst e
    clear hr
    go_enter Try.func56, Try.ntmps56
    go_wp2_with fail
    generalize W.alloc (.cells #[.slice pv kv cv, .slice pl kl cl, .slice pn kn cn, .slice pp kp cp, .slice pf kf cf, .slice pa ka ca] 39) = V at *
    generalize hK : W.heap.size = K at *
    have HK := Lib.hid hK
    clear hK
    go_region
    go_wp2_with fail
    go_ret
    exact ⟨rfl, by rw [HK.out]; exact HB.out.drew⟩
end Go.Proofs.Ytmelcohfjonjfaa
