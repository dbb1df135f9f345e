/- The reference's Last, Select. -/
import Derived.Test.YtocgdibadcmnfaaDoorBrFind
namespace Go.Proofs.YtocgdibadcmnfaaDoor
open Go.RowKit Go.Shelf
set_option maxHeartbeats 2000000 in
set_option maxRecDepth 100000 in
theorem rLast_any (n : Int) (p : Option Addr) (cap : Nat) (ws : List Nat) (a : Int) (on : Bool) (w : World) (h : WordsAt w p ws) :
    Calls Tryd.prog 31 #[.agg #[.int .i64 n, .slice p ws.length cap], .int .i64 a, .bool on] w (IntErr (lastR n ws a on) w) := by
  have ck := fun W (hW : Below w.heap.size w W) => rpart_any n p cap ws 0 a W (h.below hW)
  unfold ErrPost at ck
  have e := lastR_eq n ws a on
  have hok := runR_ok (n := n) (a := 0) (b := a) h.lt
  have HW := Lib.hid h
  generalize runR n ws 0 a = c at ck e hok
  generalize lastR n ws a on = r at e
  have CK := Lib.hid ck
  clear ck h
  by_cases hc : c ≠ 0
  · rw [if_pos hc] at e
    have E := Lib.hid e
    obtain ⟨t1, t2⟩ := neq0 hc
    clear e hc hok
    go_enter Tryd.func31, Tryd.ntmps31
    go_wp2_with (go_at_call 57; refine (CK.out _ ((Below.refl _ _).alloc (Nat.le_refl _) _)).mono ?_; rintro e w1 ⟨rfl, hb⟩; have HB1 := Lib.hid (boxB hb); clear hb)
    go_ret2
    exact intErr_mk E.out HB1.out
  · obtain rfl : c = 0 := Classical.not_not.1 hc
    rw [if_neg (by simp)] at e
    obtain ⟨m, i, j, rfl, hi0, rfl, _, hjm, hv⟩ := hok rfl
    clear hi0
    rw [Int.toNat_natCast] at e
    have hm := hv.le
    have cl := fun W (hW : Below w.heap.size w W) => rlist_any m p cap ws W (HW.out.below hW) hv
    unfold ListPost at cl
    have CL := Lib.hid cl; have E := Lib.hid e
    have j0 : (0 : Int) ≤ j := by omega
    have j4 : (j : Int) ≤ 4096 := by omega
    clear e cl hok hv hc
    go_enter Tryd.func31, Tryd.ntmps31
    go_wp2_with fail
    refine (CK.out _ ((Below.refl _ _).alloc (Nat.le_refl _) _)).mono ?_
    rintro e w1 ⟨rfl, hb⟩
    have HB1 := Lib.hid (boxB hb); have HX1 := Lib.hid ((box0 w m (.slice p ws.length cap)).below hb)
    clear hb
    have c0 := HX1.out.c0; have c1 := HX1.out.c1
    go_wp2_with fail
    refine (CL.out _ HB1.out).mono ?_
    rintro e w2 ⟨v, rfl, hb, ho⟩
    obtain ⟨pb, cb, rfl, hbo⟩ := own_bools ho
    have HB2 := Lib.hid (HB1.out.trans (hb.mono HB1.out.size)); have HBO := Lib.hid hbo
    clear hb ho hbo c0 c1
    go_wp2_with fail
    go_loopg [10] j (fun n1 i wr => n1 ≤ j ∧ i = .int .i64 ((n1 : Int) - 1) ∧ wr = w2 ∧ ∀ t, n1 ≤ t → t < j → onB (bitN ws) on t = false)
    case atStart => exact ⟨Nat.le_refl _, rfl, rfl, fun t h1 h2 => by omega⟩
    case round =>
      obtain ⟨hkj, rfl, rfl, hall⟩ := hrel
      have HALL := Lib.hid hall
      clear hall
      by_cases hk0 : gk = 0
      · subst hk0
        have HF := Lib.hid (lastF_none fun t ht => HALL.out t (Nat.zero_le _) ht)
        go_wp2_with fail
        go_ret2
        exact intErr_mk (E.out.trans HF.out) HB2.out
      · obtain ⟨k, rfl⟩ : ∃ k, gk = k + 1 := ⟨gk - 1, by omega⟩
        rw [show ((k + 1 : Nat) : Int) - 1 = (k : Int) by omega]
        obtain ⟨g, rfl, hg, hcb⟩ := HBO.out (by omega)
        have d0 := hcb k (by omega)
        have i1 : (k : Int) < m := by omega
        have k0 : (0 : Int) ≤ k := by omega
        have k4 : (k : Int) ≤ 4096 := by omega
        obtain ⟨bt, hbt⟩ : ∃ bt, bt = bitN ws k := ⟨_, rfl⟩
        rw [← hbt] at d0
        clear hcb
        by_cases hon : bt = on
        · subst hon
          have HF := Lib.hid (lastF_some (g := onB (bitN ws) bt) (i := k) (b := j) (by unfold onB; rw [← hbt]; simp) (by omega) fun t h1 h2 => HALL.out t h1 h2)
          go_wp2_with fail
          go_ret2
          exact intErr_mk (E.out.trans HF.out) HB2.out
        · have HN := Lib.hid (show ∀ t, k ≤ t → t < j → onB (bitN ws) on t = false from fun t h1 h2 => by
            by_cases e : t = k
            · unfold onB; rw [e, ← hbt]; simpa using hon
            · exact HALL.out t (by omega) h2)
          have hcase := bool_ne hon
          clear hon hbt
          rcases hcase with ⟨rfl, rfl⟩ | ⟨rfl, rfl⟩
          all_goals
            go_wp2_with fail
            go_roundg k
            case measure => omega
            case rel => exact ⟨by omega, by go_num, rfl, HN.out⟩
set_option maxHeartbeats 2000000 in
set_option maxRecDepth 100000 in
theorem rSelect_any (n : Int) (p : Option Addr) (cap : Nat) (ws : List Nat) (a : Int) (on : Bool) (w : World) (h : WordsAt w p ws) (ha : a ≤ 9223372036854775807) :
    Calls Tryd.prog 27 #[.agg #[.int .i64 n, .slice p ws.length cap], .int .i64 a, .bool on] w (IntErr (selectR n ws a on) w) := by
  have ck := fun W (hW : Below w.heap.size w W) => rcheck_any n p cap ws W (h.below hW)
  have e : selectR n ws a on = if checkR n ws ≠ 0 then (0, checkR n ws) else if a < 0 then (0, 7) else findR (selP (onB (bitN ws) on) a.toNat) n.toNat := rfl
  have hok := checkR_ok (n := n) h.lt
  have HW := Lib.hid h
  generalize checkR n ws = c at ck e hok
  generalize selectR n ws a on = r at e
  have CK := Lib.hid ck
  clear ck h
  by_cases hc : c ≠ 0
  · rw [if_pos hc] at e
    have E := Lib.hid e
    obtain ⟨t1, t2⟩ := neq0 hc
    clear e hc hok ha
    go_enter Tryd.func27, Tryd.ntmps27
    go_wp2_with (go_at_call 20; refine (CK.out _ ((Below.refl _ _).alloc (Nat.le_refl _) _)).mono ?_; rintro e w1 ⟨rfl, hb⟩; have HB1 := Lib.hid (boxB hb); clear hb)
    go_ret2
    exact intErr_mk E.out HB1.out
  · obtain rfl : c = 0 := Classical.not_not.1 hc
    rw [if_neg (by simp)] at e
    by_cases hk : a < 0
    · rw [if_pos hk] at e
      have E := Lib.hid e
      clear e hc hok ha
      go_enter Tryd.func27, Tryd.ntmps27
      go_wp2_with (go_at_call 20; refine (CK.out _ ((Below.refl _ _).alloc (Nat.le_refl _) _)).mono ?_; rintro e w1 ⟨rfl, hb⟩; have HB1 := Lib.hid (boxB hb); clear hb)
      go_ret2
      exact intErr_mk E.out HB1.out
    · rw [if_neg hk] at e
      obtain ⟨hn0, hv⟩ := hok rfl
      obtain ⟨m, rfl⟩ : ∃ m : Nat, n = (m : Int) := ⟨n.toNat, by omega⟩
      obtain ⟨K, rfl⟩ : ∃ K : Nat, a = (K : Int) := ⟨a.toNat, by omega⟩
      rw [Int.toNat_natCast, Int.toNat_natCast] at e
      rw [Int.toNat_natCast] at hv
      have hm := hv.le
      have cl := fun W (hW : Below w.heap.size w W) => rlist_any m p cap ws W (HW.out.below hW) hv
      unfold ListPost at cl
      have CL := Lib.hid cl; have E := Lib.hid e; have HA := Lib.hid ha
      clear e cl hok hv hc hn0 ha
      go_enter Tryd.func27, Tryd.ntmps27
      go_wp2_with fail
      refine (CK.out _ ((Below.refl _ _).alloc (Nat.le_refl _) _)).mono ?_
      rintro e w1 ⟨rfl, hb⟩
      have HB1 := Lib.hid (boxB hb); have HX1 := Lib.hid ((box0 w m (.slice p ws.length cap)).below hb)
      clear hb
      have c0 := HX1.out.c0; have c1 := HX1.out.c1
      go_wp2_with fail
      refine (CL.out _ HB1.out).mono ?_
      rintro e w2 ⟨v, rfl, hb, ho⟩
      obtain ⟨pb, cb, rfl, hbo⟩ := own_bools ho
      have HB2 := Lib.hid (HB1.out.trans (hb.mono HB1.out.size)); have HBO := Lib.hid hbo
      clear hb ho hbo c0 c1 hk
      go_wp2_with fail
      go_loopg [1, 10] m (fun n1 kv i wr => ∃ k K' : Nat, k + n1 = m ∧ i = .int .i64 k ∧ kv = .int .i64 (K' : Int) ∧ wr = w2 ∧ K = cnt (onB (bitN ws) on) k + K')
      case atStart => exact ⟨0, K, by omega, rfl, rfl, rfl, by simp [cnt]⟩
      case round =>
        obtain ⟨k, K', hkn, rfl, rfl, rfl, hK⟩ := hrel
        have HK := Lib.hid hK
        have K0 : (0 : Int) ≤ K' := by omega
        have K9 : (K' : Int) ≤ 9223372036854775807 := by have := HA.out; omega
        clear hK
        by_cases hlt : k < m
        · obtain ⟨n', rfl⟩ : ∃ n', gk = n' + 1 := ⟨gk - 1, by omega⟩
          obtain ⟨g, rfl, hg, hcb⟩ := HBO.out (by omega)
          have d0 := hcb k hlt
          have i1 : (k : Int) < m := by omega
          have k0 : (0 : Int) ≤ k := by omega
          have k4 : (k : Int) ≤ 4096 := by omega
          obtain ⟨bt, hbt⟩ : ∃ bt, bt = bitN ws k := ⟨_, rfl⟩
          rw [← hbt] at d0
          have hsu := cnt_succ (onB (bitN ws) on) k
          have hgb : onB (bitN ws) on k = (bt == on) := by unfold onB; rw [← hbt]
          rw [hgb] at hsu
          have HG := Lib.hid hgb
          clear hcb hbt hgb
          by_cases hon : bt = on
          · subst hon
            rw [beq_self_eq_true] at hsu
            have HSU := Lib.hid hsu
            clear hsu
            have tb : (bt != bt) = false := by simp
            by_cases hz : K' = 0
            · subst hz
              have HF := Lib.hid (sel_some (g := onB (bitN ws) bt) (m := m) (k := K) (i := k) hlt (by rw [HG.out]; simp) (by have := HK.out; omega))
              clear K9
              go_wp2_with fail
              go_ret2
              exact intErr_mk (E.out.trans HF.out) HB2.out
            · have tz : ((K' : Int) == 0) = false := beq_eq_false_iff_ne.2 (by omega)
              have K1 : (1 : Int) ≤ K' := by omega
              go_wp2_with fail
              go_roundg n'
              case measure => omega
              case rel => exact ⟨k + 1, K' - 1, by omega, by go_num, congrArg (Value.int .i64) (by omega), rfl, by have := HSU.out; have := HK.out; simp at *; omega⟩
          · have hne : (bt == on) = false := beq_eq_false_iff_ne.2 hon
            rw [hne] at hsu
            have HSU := Lib.hid hsu
            have hcase := bool_ne hon
            clear hon hne hsu
            rcases hcase with ⟨rfl, rfl⟩ | ⟨rfl, rfl⟩
            all_goals
              go_wp2_with fail
              go_roundg n'
              case measure => omega
              case rel => exact ⟨k + 1, K', by omega, by go_num, rfl, rfl, by have := HSU.out; have := HK.out; simp at *; omega⟩
        · obtain rfl : k = m := by omega
          have HF := Lib.hid (show findR (selP (onB (bitN ws) on) K) k = (0, 4) from findR_none fun t ht => by
            unfold selP
            cases hg : onB (bitN ws) on t with
            | false => rfl
            | true =>
              have h1 := cnt_lt (onB (bitN ws) on) ht hg
              have h2 : (cnt (onB (bitN ws) on) t == K) = false := beq_eq_false_iff_ne.2 (by have := HK.out; omega)
              rw [h2]; rfl)
          clear K9
          go_wp2_with fail
          go_ret2
          exact intErr_mk (E.out.trans HF.out) HB2.out
end Go.Proofs.YtocgdibadcmnfaaDoor
