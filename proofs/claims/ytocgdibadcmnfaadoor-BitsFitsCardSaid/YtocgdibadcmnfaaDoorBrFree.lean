/- The reference's free, Fit, Best, Block. -/
import Derived.Test.YtocgdibadcmnfaaDoorBrFind2
namespace Go.Proofs.YtocgdibadcmnfaaDoor
open Go.RowKit Go.Shelf
set_option maxHeartbeats 1000000 in
set_option maxRecDepth 100000 in
theorem rfree_any (f : Nat → Bool) (i s m : Nat) (p : Option Addr) (cap : Nat) (w : World) (hm : m ≤ 4096) (hi : i ≤ 4096) (hs : s ≤ 4096) (h : BoolsAt w p f m) :
    Calls Tryd.prog 66 #[.slice p m cap, .int .i64 (i : Int), .int .i64 (s : Int)] w fun e w' => e = .returned (.bool (freeP f m s i)) ∧ w' = w := by
  have HW := Lib.hid h
  have m4 : (m : Int) ≤ 4096 := by omega
  have i4 : (i : Int) ≤ 4096 := by omega
  have s4 : (s : Int) ≤ 4096 := by omega
  have i0 : (0 : Int) ≤ i := by omega
  have s0 : (0 : Int) ≤ s := by omega
  clear h
  by_cases hfit : i + s ≤ m
  · have i1 : ¬ (m : Int) < i + s := by omega
    go_enter Tryd.func66, Tryd.ntmps66
    go_wp2_with fail
    go_loopg [7] s (fun n1 j wr => ∃ k : Nat, k + n1 = i + s ∧ i ≤ k ∧ j = .int .i64 k ∧ wr = w ∧ ∀ t, i ≤ t → t < k → f t = false)
    case atStart => exact ⟨i, by omega, Nat.le_refl _, rfl, rfl, fun t h1 h2 => by omega⟩
    case round =>
      obtain ⟨k, hkn, hik, rfl, rfl, hall⟩ := hrel
      have HALL := Lib.hid hall
      clear hall
      by_cases hlt : k < i + s
      · obtain ⟨n', rfl⟩ : ∃ n', gk = n' + 1 := ⟨gk - 1, by omega⟩
        obtain ⟨g, rfl, hg, hcb⟩ := HW.out (by omega)
        have d0 := hcb k (by omega)
        have j1 : (k : Int) < i + s := by omega
        have j2 : (k : Int) < m := by omega
        have k0 : (0 : Int) ≤ k := by omega
        clear hcb
        cases hb : f k
        · rw [hb] at d0
          have HN := Lib.hid (show ∀ t, i ≤ t → t < k + 1 → f t = false from fun t h1 h2 => by
            by_cases e : t = k
            · rw [e]; exact hb
            · exact HALL.out t h1 (by omega))
          clear hb
          go_wp2_with fail
          go_roundg n'
          case measure => omega
          case rel => exact ⟨k + 1, by omega, by omega, by go_num, rfl, HN.out⟩
        · rw [hb] at d0
          have hf : freeP f m s i = false := by
            unfold freeP
            rw [clearRun_no hik (by omega) hb, Bool.and_false]
          have HF := Lib.hid hf
          clear hf hb
          go_wp2_with fail
          go_ret
          exact ⟨ret_bool HF.out.symm, rfl⟩
      · have hf : freeP f m s i = true := (freeP_iff _ _ _ _).2 ⟨hfit, fun j h1 h2 => HALL.out j h1 (by omega)⟩
        have HF := Lib.hid hf
        have j1 : ¬ (k : Int) < i + s := by omega
        clear hf
        go_wp2_with fail
        go_ret
        exact ⟨ret_bool HF.out.symm, rfl⟩
  · have i1 : (m : Int) < i + s := by omega
    have hf : freeP f m s i = false := by
      unfold freeP
      have : decide (i + s ≤ m) = false := by simpa using hfit
      rw [this]; rfl
    have HF := Lib.hid hf
    clear hf
    go_enter Tryd.func66, Tryd.ntmps66
    go_wp2_with fail
    go_ret
    exact ⟨ret_bool HF.out.symm, rfl⟩
theorem free_great {f : Nat → Bool} {m s : Nat} (h : m < s) (i : Nat) : freeP f m s i = false := by
  unfold freeP
  have : decide (i + s ≤ m) = false := by simp; omega
  rw [this]; rfl
set_option maxHeartbeats 2000000 in
set_option maxRecDepth 100000 in
theorem rFit_any (n : Int) (p : Option Addr) (cap : Nat) (ws : List Nat) (size a : Int) (w : World) (h : WordsAt w p ws) (hsz : size ≤ 9223372036854775807) :
    Calls Tryd.prog 36 #[.agg #[.int .i64 n, .slice p ws.length cap], .int .i64 size, .int .i64 a] w (IntErr (fitR n ws size a) w) := by
  have ck := fun W (hW : Below w.heap.size w W) => rcheck_any n p cap ws W (h.below hW)
  have e := fitR_eq n ws size a
  have ee : fitE n ws size a = if checkR n ws ≠ 0 then checkR n ws else if size < 1 then 2 else if a < 0 ∨ n < a then 7 else 0 := rfl
  have hok := checkR_ok (n := n) h.lt
  have HW := Lib.hid h
  generalize checkR n ws = c at ck ee hok
  generalize fitR n ws size a = r at e
  generalize fitE n ws size a = er at e ee
  have CK := Lib.hid ck
  clear ck h
  by_cases hc : c ≠ 0
  · rw [if_pos hc] at ee
    subst ee
    rw [if_pos hc] at e
    have E := Lib.hid e
    obtain ⟨t1, t2⟩ := neq0 hc
    clear e hc hok hsz
    go_enter Tryd.func36, Tryd.ntmps36
    go_wp2_with (go_at_call 20; refine (CK.out _ ((Below.refl _ _).alloc (Nat.le_refl _) _)).mono ?_; rintro e w1 ⟨rfl, hb⟩; have HB1 := Lib.hid (boxB hb); clear hb)
    go_ret2
    exact intErr_mk E.out HB1.out
  · obtain rfl : c = 0 := Classical.not_not.1 hc
    rw [if_neg (by simp)] at ee
    by_cases h1 : size < 1
    · rw [if_pos h1] at ee
      subst ee
      rw [if_pos (by decide)] at e
      have E := Lib.hid e
      clear e hok hc hsz
      go_enter Tryd.func36, Tryd.ntmps36
      go_wp2_with (go_at_call 20; refine (CK.out _ ((Below.refl _ _).alloc (Nat.le_refl _) _)).mono ?_; rintro e w1 ⟨rfl, hb⟩; have HB1 := Lib.hid (boxB hb); clear hb)
      go_ret2
      exact intErr_mk E.out HB1.out
    · rw [if_neg h1] at ee
      by_cases h2 : a < 0 ∨ n < a
      · rw [if_pos h2] at ee
        subst ee
        rw [if_pos (by decide)] at e
        have E := Lib.hid e
        have h2' : a < 0 ∨ (¬ a < 0 ∧ n < a) := by omega
        clear e hok hc h2 hsz
        rcases h2' with q1 | ⟨q1, q2⟩
        all_goals
          go_enter Tryd.func36, Tryd.ntmps36
          go_wp2_with fail
          refine (CK.out _ ((Below.refl _ _).alloc (Nat.le_refl _) _)).mono ?_
          rintro e w1 ⟨rfl, hb⟩
          have HB1 := Lib.hid (boxB hb); have HX1 := Lib.hid ((box0 w n (.slice p ws.length cap)).below hb)
          clear hb
          have c0 := HX1.out.c0; have c1 := HX1.out.c1
          go_wp2_with fail
          go_ret2
          exact intErr_mk E.out HB1.out
      · rw [if_neg h2] at ee
        subst ee
        rw [if_neg (by simp)] at e
        obtain ⟨hn0, hv⟩ := hok rfl
        obtain ⟨m, rfl⟩ : ∃ m : Nat, n = (m : Int) := ⟨n.toNat, by omega⟩
        obtain ⟨j, rfl⟩ : ∃ j : Nat, a = (j : Int) := ⟨a.toNat, by omega⟩
        obtain ⟨s, rfl⟩ : ∃ s : Nat, size = (s : Int) := ⟨size.toNat, by omega⟩
        rw [Int.toNat_natCast, Int.toNat_natCast] at e
        rw [Int.toNat_natCast] at hv
        have hjm : j ≤ m := by omega
        have hs1 : 1 ≤ s := by omega
        rw [fit_find hjm hs1] at e
        have hm := hv.le
        have cl := fun W (hW : Below w.heap.size w W) => rlist_any m p cap ws W (HW.out.below hW) hv
        unfold ListPost at cl
        have CL := Lib.hid cl; have E := Lib.hid e; have HSZ := Lib.hid hsz
        have q1 : ¬ (s : Int) < 1 := h1
        have q2 : ¬ (j : Int) < 0 := by omega
        have q3 : ¬ (m : Int) < j := by omega
        clear e cl hok hv hc hn0 h1 h2 hsz
        go_enter Tryd.func36, Tryd.ntmps36
        go_wp2_with fail
        refine (CK.out _ ((Below.refl _ _).alloc (Nat.le_refl _) _)).mono ?_
        rintro e w1 ⟨rfl, hb⟩
        have HB1 := Lib.hid (boxB hb); have HX1 := Lib.hid ((box0 w m (.slice p ws.length cap)).below hb)
        clear hb
        have c0 := HX1.out.c0; have c1 := HX1.out.c1
        go_wp2_with fail
        refine (CL.out _ HB1.out).mono ?_
        rintro e w2 ⟨v, rfl, hb, ho⟩
        obtain ⟨pb, cb, rfl, hbo⟩ := own_bools ho
        have HB2 := Lib.hid (HB1.out.trans (hb.mono HB1.out.size)); have HBO := Lib.hid hbo
        clear hb ho hbo c0 c1
        go_wp2_with fail
        by_cases hsm : m < s
        · have hf : findR (fun i => decide (j ≤ i) && freeP (bitN ws) m s i) m = (0, 4) := findR_none fun t _ => by rw [free_great hsm, Bool.and_false]
          have HF := Lib.hid (E.out.trans hf)
          have i1 : ¬ (s : Int) ≤ m := by omega
          have i2 : (m : Int) < s := by omega
          clear hf hsm
          go_loopg [10] 0 (fun n1 i wr => n1 = 0 ∧ i = .int .i64 j ∧ wr = w2)
          case atStart => exact ⟨rfl, rfl, rfl⟩
          case round =>
            obtain ⟨_, rfl, rfl⟩ := hrel
            by_cases hlt : (j : Int) < m
            · go_wp2_with fail
              go_ret2
              exact intErr_mk HF.out HB2.out
            · go_wp2_with fail
              go_ret2
              exact intErr_mk HF.out HB2.out
        · have cf := fun (i : Nat) (hi : i ≤ 4096) => rfree_any (bitN ws) i s m pb cb w2 hm hi (by omega) HBO.out
          have CF := Lib.hid cf
          have i1 : (s : Int) ≤ m := by omega
          clear cf hsm
          go_loopg [10] (m - j) (fun n1 i wr => ∃ k : Nat, k + n1 = m ∧ j ≤ k ∧ i = .int .i64 k ∧ wr = w2 ∧ ∀ t, t < k → (decide (j ≤ t) && freeP (bitN ws) m s t) = false)
          case atStart => exact ⟨j, by omega, Nat.le_refl _, rfl, rfl, fun t ht => by simp; omega⟩
          case round =>
            obtain ⟨k, hkn, hjk, rfl, rfl, hall⟩ := hrel
            have HALL := Lib.hid hall
            clear hall
            by_cases hlt : k < m
            · obtain ⟨n', rfl⟩ : ∃ n', gk = n' + 1 := ⟨gk - 1, by omega⟩
              have cf := CF.out k (by omega)
              have i2 : (k : Int) < m := by omega
              have k0 : (0 : Int) ≤ k := by omega
              have k4 : (k : Int) ≤ 4096 := by omega
              cases hb : freeP (bitN ws) m s k
              · rw [hb] at cf
                have CF1 := Lib.hid cf
                have HN := Lib.hid (show ∀ t, t < k + 1 → (decide (j ≤ t) && freeP (bitN ws) m s t) = false from fun t h1 => by
                  by_cases e : t = k
                  · rw [e, hb, Bool.and_false]
                  · exact HALL.out t (by omega))
                clear hb cf
                go_wp2_with (go_at_call 66; refine CF1.out.mono ?_; rintro e w' ⟨rfl, rfl⟩)
                go_roundg n'
                case measure => omega
                case rel => exact ⟨k + 1, by omega, by omega, by go_num, rfl, HN.out⟩
              · rw [hb] at cf
                have CF1 := Lib.hid cf
                have hf := findR_some (p := fun i => decide (j ≤ i) && freeP (bitN ws) m s i) hlt (by simp [hb, hjk]) HALL.out
                have HF := Lib.hid (E.out.trans hf)
                clear hb cf hf
                go_wp2_with (go_at_call 66; refine CF1.out.mono ?_; rintro e w' ⟨rfl, rfl⟩)
                go_ret2
                exact intErr_mk HF.out HB2.out
            · have hf := findR_none (p := fun i => decide (j ≤ i) && freeP (bitN ws) m s i) (n := m) fun t ht => HALL.out t (by omega)
              have HF := Lib.hid (E.out.trans hf)
              have i2 : ¬ (k : Int) < m := by omega
              clear hf
              go_wp2_with fail
              go_ret2
              exact intErr_mk HF.out HB2.out
end Go.Proofs.YtocgdibadcmnfaaDoor
