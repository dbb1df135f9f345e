/- The reference's part, Next, Last, Select. -/
import Derived.Test.YtocgdibadcmnfaaDoorBrRunsAny
namespace Go.Proofs.YtocgdibadcmnfaaDoor
open Go.RowKit Go.Shelf

set_option maxHeartbeats 1000000 in
set_option maxRecDepth 100000 in
theorem rpart_any (n : Int) (p : Option Addr) (cap : Nat) (ws : List Nat) (a b : Int) (w : World) (h : WordsAt w p ws) :
    Calls Tryd.prog 57 #[.agg #[.int .i64 n, .slice p ws.length cap], .int .i64 a, .int .i64 b] w (ErrPost (runR n ws a b) w) := by
  have ck := fun W (hW : Below w.heap.size w W) => rcheck_any n p cap ws W (h.below hW)
  have e : runR n ws a b = if checkR n ws ≠ 0 then checkR n ws else if a < 0 ∨ b < a ∨ n < b then 7 else 0 := rfl
  generalize checkR n ws = c at ck e
  generalize runR n ws a b = r at e
  have CK := Lib.hid ck
  clear ck h
  by_cases hc : c ≠ 0
  · rw [if_pos hc] at e
    have E := Lib.hid e
    obtain ⟨t1, t2⟩ := neq0 hc
    clear e hc
    go_enter Tryd.func57, Tryd.ntmps57
    go_wp2_with (go_at_call 20; refine (CK.out _ ((Below.refl _ _).alloc (Nat.le_refl _) _)).mono ?_; rintro e w1 ⟨rfl, hb⟩; have HB1 := Lib.hid (boxB hb); clear hb)
    go_ret
    exact errPost_mk E.out HB1.out
  · obtain rfl : c = 0 := Classical.not_not.1 hc
    rw [if_neg (by simp)] at e
    clear hc
    by_cases hr : a < 0 ∨ b < a ∨ n < b
    · rw [if_pos hr] at e
      have E := Lib.hid e
      have hr' : a < 0 ∨ (¬ a < 0 ∧ b < a) ∨ (¬ a < 0 ∧ ¬ b < a ∧ n < b) := by omega
      clear e hr
      rcases hr' with q1 | ⟨q1, q2⟩ | ⟨q1, q2, q3⟩
      all_goals
        go_enter Tryd.func57, Tryd.ntmps57
        go_wp2_with fail
        refine (CK.out _ ((Below.refl _ _).alloc (Nat.le_refl _) _)).mono ?_
        rintro e w1 ⟨rfl, hb⟩
        have HB1 := Lib.hid (boxB hb); have HX1 := Lib.hid ((box0 w n (.slice p ws.length cap)).below hb)
        clear hb
        have c0 := HX1.out.c0; have c1 := HX1.out.c1
        go_wp2_with fail
        go_ret
        exact errPost_mk E.out HB1.out
    · rw [if_neg hr] at e
      have E := Lib.hid e
      have q1 : ¬ a < 0 := by omega
      have q2 : ¬ b < a := by omega
      have q3 : ¬ n < b := by omega
      clear e hr
      go_enter Tryd.func57, Tryd.ntmps57
      go_wp2_with fail
      refine (CK.out _ ((Below.refl _ _).alloc (Nat.le_refl _) _)).mono ?_
      rintro e w1 ⟨rfl, hb⟩
      have HB1 := Lib.hid (boxB hb); have HX1 := Lib.hid ((box0 w n (.slice p ws.length cap)).below hb)
      clear hb
      have c0 := HX1.out.c0; have c1 := HX1.out.c1
      go_wp2_with fail
      go_ret
      exact errPost_mk E.out HB1.out
theorem runR_swap (n : Int) (ws : List Nat) (a : Int) : runR n ws 0 a = runR n ws a n := by
  unfold runR
  by_cases hc : checkR n ws ≠ 0
  · rw [if_pos hc, if_pos hc]
  · rw [if_neg hc, if_neg hc]
    by_cases h : a < 0 ∨ n < a
    · rw [if_pos (by omega), if_pos (by omega)]
    · rw [if_neg (by omega), if_neg (by omega)]
theorem bool_ne {a b : Bool} (h : a ≠ b) : (a = true ∧ b = false) ∨ (a = false ∧ b = true) := by cases a <;> cases b <;> simp_all
set_option maxHeartbeats 2000000 in
set_option maxRecDepth 100000 in
theorem rNext_any (n : Int) (p : Option Addr) (cap : Nat) (ws : List Nat) (a : Int) (on : Bool) (w : World) (h : WordsAt w p ws) :
    Calls Tryd.prog 29 #[.agg #[.int .i64 n, .slice p ws.length cap], .int .i64 a, .bool on] w (IntErr (nextR n ws a on) w) := by
  have ck := fun W (hW : Below w.heap.size w W) => rpart_any n p cap ws 0 a W (h.below hW)
  unfold ErrPost at ck
  have e : nextR n ws a on = if runR n ws a n ≠ 0 then (0, runR n ws a n) else findR (fromB (bitN ws) on a.toNat) n.toNat := rfl
  have hok := runR_ok (n := n) (a := 0) (b := a) h.lt
  rw [← runR_swap] at e
  have HW := Lib.hid h
  generalize runR n ws 0 a = c at ck e hok
  generalize nextR n ws a on = r at e
  have CK := Lib.hid ck
  clear ck h
  by_cases hc : c ≠ 0
  · rw [if_pos hc] at e
    have E := Lib.hid e
    obtain ⟨t1, t2⟩ := neq0 hc
    clear e hc hok
    go_enter Tryd.func29, Tryd.ntmps29
    go_wp2_with (go_at_call 57; refine (CK.out _ ((Below.refl _ _).alloc (Nat.le_refl _) _)).mono ?_; rintro e w1 ⟨rfl, hb⟩; have HB1 := Lib.hid (boxB hb); clear hb)
    go_ret2
    exact intErr_mk E.out HB1.out
  · obtain rfl : c = 0 := Classical.not_not.1 hc
    rw [if_neg (by simp)] at e
    obtain ⟨m, i, j, rfl, hi0, rfl, _, hjm, hv⟩ := hok rfl
    clear hi0
    rw [Int.toNat_natCast, Int.toNat_natCast] at e
    have hm := hv.le
    have cl := fun W (hW : Below w.heap.size w W) => rlist_any m p cap ws W (HW.out.below hW) hv
    unfold ListPost at cl
    have CL := Lib.hid cl; have E := Lib.hid e
    clear e cl hok hv hc
    go_enter Tryd.func29, Tryd.ntmps29
    go_wp2_with fail
    refine (CK.out _ ((Below.refl _ _).alloc (Nat.le_refl _) _)).mono ?_
    rintro e w1 ⟨rfl, hb⟩
    have HB1 := Lib.hid (boxB hb); have HX1 := Lib.hid ((box0 w m (.slice p ws.length cap)).below hb)
    clear hb
    have c0 := HX1.out.c0; have c1 := HX1.out.c1
    go_wp2_with fail
    refine (CL.out _ HB1.out).mono ?_
    rintro e w2 ⟨v, rfl, hb, ho⟩
    obtain ⟨pb, cb, rfl, hbo⟩ := own_bools ho
    have HB2 := Lib.hid (HB1.out.trans (hb.mono HB1.out.size)); have HBO := Lib.hid hbo
    clear hb ho hbo c0 c1
    go_wp2_with fail
    go_loopg [10] (m - j) (fun n1 i wr => ∃ k : Nat, k + n1 = m ∧ j ≤ k ∧ i = .int .i64 k ∧ wr = w2 ∧ ∀ t, j ≤ t → t < k → bitN ws t ≠ on)
    case atStart => exact ⟨j, by omega, Nat.le_refl _, rfl, rfl, fun t h1 h2 => by omega⟩
    case round =>
      obtain ⟨k, hkn, hjk, rfl, rfl, hall⟩ := hrel
      have HALL := Lib.hid hall
      clear hall
      by_cases hlt : k < m
      · obtain ⟨n', rfl⟩ : ∃ n', gk = n' + 1 := ⟨gk - 1, by omega⟩
        obtain ⟨g, rfl, hg, hcb⟩ := HBO.out (by omega)
        have d0 := hcb k hlt
        have i1 : (k : Int) < m := by omega
        have k0 : (0 : Int) ≤ k := by omega
        have k4 : (k : Int) ≤ 4096 := by omega
        obtain ⟨bt, hbt⟩ : ∃ bt, bt = bitN ws k := ⟨_, rfl⟩
        rw [← hbt] at d0
        clear hcb
        by_cases hon : bt = on
        · subst hon
          have hf : findR (fromB (bitN ws) bt j) m = ((k : Int), 0) := findR_some hlt (by unfold fromB onB; rw [← hbt]; simp [hjk]) fun t ht => by
            unfold fromB onB
            by_cases h1 : j ≤ t
            · have := HALL.out t h1 ht
              simp [this]
            · simp [h1]
          have HF := Lib.hid hf
          have hbb : (bt == bt) = true := by simp
          clear hf
          go_wp2_with fail
          go_ret2
          exact intErr_mk (E.out.trans HF.out) HB2.out
        · have HN := Lib.hid (show ∀ t, j ≤ t → t < k + 1 → bitN ws t ≠ on from fun t h1 h2 => by
            by_cases e : t = k
            · rw [e, ← hbt]; exact hon
            · exact HALL.out t h1 (by omega))
          have hcase := bool_ne hon
          clear hon hbt
          rcases hcase with ⟨rfl, rfl⟩ | ⟨rfl, rfl⟩
          all_goals
            go_wp2_with fail
            go_roundg n'
            case measure => omega
            case rel => exact ⟨k + 1, by omega, by omega, by go_num, rfl, HN.out⟩
      · have hf : findR (fromB (bitN ws) on j) m = (0, 4) := findR_none fun t ht => by
          unfold fromB onB
          by_cases h1 : j ≤ t
          · have := HALL.out t h1 (by omega)
            simp [this]
          · simp [h1]
        have HF := Lib.hid hf
        have i1 : ¬ (k : Int) < m := by omega
        clear hf
        go_wp2_with fail
        go_ret2
        exact intErr_mk (E.out.trans HF.out) HB2.out
end Go.Proofs.YtocgdibadcmnfaaDoor
