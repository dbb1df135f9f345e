/- The reference's Get, Count, Set, New. -/
import Derived.Test.YtocgdibadcmnfaaDoorBrJoin
namespace Go.Proofs.YtocgdibadcmnfaaDoor
open Go.RowKit Go.Shelf
set_option maxHeartbeats 2000000 in
set_option maxRecDepth 100000 in
theorem rGet_any (n : Int) (p : Option Addr) (cap : Nat) (ws : List Nat) (i : Int) (w : World) (h : WordsAt w p ws) :
    Calls Tryd.prog 18 #[.agg #[.int .i64 n, .slice p ws.length cap], .int .i64 i] w (BoolErr (getR n ws i) w) := by
  have ck := fun W (hW : Below w.heap.size w W) => rcheck_any n p cap ws W (h.below hW)
  have e : getR n ws i = if checkR n ws ≠ 0 then (false, checkR n ws) else if i < 0 ∨ n ≤ i then (false, 7) else (bitN ws i.toNat, 0) := rfl
  have hok := checkR_ok (n := n) h.lt
  have HW := Lib.hid h
  generalize checkR n ws = c at ck e hok
  generalize getR n ws i = r at e
  have CK := Lib.hid ck; clear ck h
  by_cases hc : c ≠ 0
  · rw [if_pos hc] at e
    obtain ⟨t1, t2⟩ := neq0 hc
    have E := Lib.hid e; clear e hc hok
    go_enter Tryd.func18, Tryd.ntmps18
    go_wp2_with (go_at_call 20; refine (CK.out _ ((Below.refl _ _).alloc (Nat.le_refl _) _)).mono ?_; rintro e w1 ⟨rfl, hb⟩; have HB := Lib.hid (boxB hb); clear hb)
    go_ret2
    exact boolErr_mk E.out HB.out
  · rw [if_neg hc] at e
    obtain rfl : c = 0 := Classical.not_not.1 hc
    obtain ⟨hn0, hv⟩ := hok rfl
    obtain ⟨m, rfl⟩ : ∃ m : Nat, n = (m : Int) := ⟨n.toNat, by omega⟩
    rw [Int.toNat_natCast] at hv
    by_cases h1 : i < 0 ∨ (m : Int) ≤ i
    · rw [if_pos h1] at e
      have E := Lib.hid e
      have h1' : i < 0 ∨ (¬ i < 0 ∧ (m : Int) ≤ i) := by omega
      clear e hok hv hc h1 hn0
      rcases h1' with q1 | ⟨q1, q2⟩
      all_goals
        go_enter Tryd.func18, Tryd.ntmps18
        go_wp2_with fail
        refine (CK.out _ ((Below.refl _ _).alloc (Nat.le_refl _) _)).mono ?_
        rintro e w1 ⟨rfl, hb⟩
        have HB1 := Lib.hid (boxB hb); have HX1 := Lib.hid ((box0 w m (.slice p ws.length cap)).below hb)
        clear hb
        have c0 := HX1.out.c0; have c1 := HX1.out.c1
        go_wp2_with fail
        go_ret2
        exact boolErr_mk E.out HB1.out
    · rw [if_neg h1] at e
      obtain ⟨k, rfl⟩ : ∃ k : Nat, i = (k : Int) := ⟨i.toNat, by omega⟩
      rw [Int.toNat_natCast] at e
      have hkm : k < m := by omega
      have hm := hv.le
      have cl := fun W (hW : Below w.heap.size w W) => rlist_any m p cap ws W (HW.out.below hW) hv
      unfold ListPost at cl
      have CL := Lib.hid cl; have E := Lib.hid e
      have q1 : ¬ (k : Int) < 0 := by omega
      have q2 : ¬ (m : Int) ≤ k := by omega
      have q3 : (k : Int) < m := by omega
      have q4 : (0 : Int) ≤ k := by omega
      clear e cl hok hv hc h1 hn0
      go_enter Tryd.func18, Tryd.ntmps18
      go_wp2_with fail
      refine (CK.out _ ((Below.refl _ _).alloc (Nat.le_refl _) _)).mono ?_
      rintro e w1 ⟨rfl, hb⟩
      have HB1 := Lib.hid (boxB hb); have HX1 := Lib.hid ((box0 w m (.slice p ws.length cap)).below hb)
      clear hb
      have c0 := HX1.out.c0; have c1 := HX1.out.c1
      go_wp2_with (go_at_call 54; refine (CL.out _ HB1.out).mono ?_; rintro e w2 ⟨v, rfl, hb, ho⟩; obtain ⟨pb, cb, rfl, hbo⟩ := own_bools ho; have HB2 := Lib.hid (HB1.out.trans (hb.mono HB1.out.size)); obtain ⟨g, rfl, hg, hcb⟩ := hbo (by omega); have d0 := hcb k hkm; clear hcb hb ho hbo c0 c1)
      go_ret2
      exact boolErr_mk E.out HB2.out
theorem runOn_step (f : Nat → Bool) (m a k : Nat) (on : Bool) (hk : a ≤ k) : (boolC (runOn a k on f) m).set k (.bool on) = boolC (runOn a (k + 1) on f) m :=
  boolC_set (by unfold runOn; rw [if_pos (by omega)]) fun i _ hne => by
    unfold runOn
    by_cases h : a ≤ i ∧ i < k
    · rw [if_pos h, if_pos (by omega)]
    · rw [if_neg h, if_neg (by omega)]
theorem runOn_none (f : Nat → Bool) (m a : Nat) (on : Bool) : boolC (runOn a a on f) m = boolC f m := boolC_congr fun i _ => by unfold runOn; rw [if_neg (by omega)]
set_option maxHeartbeats 2000000 in
set_option maxRecDepth 100000 in
theorem rCount_any (n : Int) (p : Option Addr) (cap : Nat) (ws : List Nat) (a b : Int) (w : World) (h : WordsAt w p ws) :
    Calls Tryd.prog 25 #[.agg #[.int .i64 n, .slice p ws.length cap], .int .i64 a, .int .i64 b] w (IntErr (countR n ws a b) w) := by
  have ck := fun W (hW : Below w.heap.size w W) => rpart_any n p cap ws a b W (h.below hW)
  unfold ErrPost at ck
  have e : countR n ws a b = if runR n ws a b ≠ 0 then (0, runR n ws a b) else (((cnt (bitN ws) b.toNat - cnt (bitN ws) a.toNat : Nat) : Int), 0) := rfl
  have hok := runR_ok (n := n) (a := a) (b := b) h.lt
  have HW := Lib.hid h
  generalize runR n ws a b = c at ck e hok
  generalize countR n ws a b = r at e
  have CK := Lib.hid ck
  clear ck h
  by_cases hc : c ≠ 0
  · rw [if_pos hc] at e
    have E := Lib.hid e
    obtain ⟨t1, t2⟩ := neq0 hc
    clear e hc hok
    go_enter Tryd.func25, Tryd.ntmps25
    go_wp2_with (go_at_call 57; refine (CK.out _ ((Below.refl _ _).alloc (Nat.le_refl _) _)).mono ?_; rintro e w1 ⟨rfl, hb⟩; have HB1 := Lib.hid (boxB hb); clear hb)
    go_ret2
    exact intErr_mk E.out HB1.out
  · obtain rfl : c = 0 := Classical.not_not.1 hc
    rw [if_neg (by simp)] at e
    obtain ⟨m, i, j, rfl, rfl, rfl, hij, hjm, hv⟩ := hok rfl
    rw [Int.toNat_natCast, Int.toNat_natCast] at e
    have hm := hv.le
    have cl := fun W (hW : Below w.heap.size w W) => rlist_any m p cap ws W (HW.out.below hW) hv
    unfold ListPost at cl
    have CL := Lib.hid cl; have E := Lib.hid e
    have j4 : (j : Int) ≤ 4096 := by omega
    clear e cl hok hv hc
    go_enter Tryd.func25, Tryd.ntmps25
    go_wp2_with fail
    refine (CK.out _ ((Below.refl _ _).alloc (Nat.le_refl _) _)).mono ?_
    rintro e w1 ⟨rfl, hb⟩
    have HB1 := Lib.hid (boxB hb); have HX1 := Lib.hid ((box0 w m (.slice p ws.length cap)).below hb)
    clear hb
    have c0 := HX1.out.c0; have c1 := HX1.out.c1
    go_wp2_with fail
    refine (CL.out _ HB1.out).mono ?_
    rintro e w2 ⟨v, rfl, hb, ho⟩
    obtain ⟨pb, cb, rfl, hbo⟩ := own_bools ho
    have HB2 := Lib.hid (HB1.out.trans (hb.mono HB1.out.size)); have HBO := Lib.hid hbo
    clear hb ho hbo c0 c1
    go_wp2_with fail
    go_loopg [10, 11] (j - i) (fun n1 s t wr => ∃ k q : Nat, k + n1 = j ∧ i ≤ k ∧ s = .int .i64 (q : Int) ∧ t = .int .i64 k ∧ wr = w2 ∧ q + cnt (bitN ws) i = cnt (bitN ws) k ∧ q ≤ k)
    case atStart => exact ⟨i, 0, by omega, Nat.le_refl _, by go_num, rfl, rfl, by omega, by omega⟩
    case round =>
      obtain ⟨k, q, hkn, hik, rfl, rfl, rfl, hq, hqk⟩ := hrel
      have HQ := Lib.hid hq
      clear hq
      have k0 : (0 : Int) ≤ k := by omega
      have q0 : (0 : Int) ≤ q := by omega
      have q4 : (q : Int) ≤ 4096 := by omega
      by_cases hlt : k < j
      · obtain ⟨n', rfl⟩ : ∃ n', gk = n' + 1 := ⟨gk - 1, by omega⟩
        obtain ⟨g, rfl, hg, hcb⟩ := HBO.out (by omega)
        have d0 := hcb k (by omega)
        have i1 : (k : Int) < j := by omega
        have i2 : (k : Int) < m := by omega
        have HSU := Lib.hid (cnt_succ (bitN ws) k)
        clear hcb
        cases hb : bitN ws k
        all_goals
          rw [hb] at d0 HSU
          clear hb
          go_wp2_with fail
          go_roundg n'
          case measure => omega
          case rel => first | exact ⟨k + 1, q, by omega, by omega, rfl, by go_num, rfl, by have := HSU.out; have := HQ.out; simp at *; omega, by omega⟩ | exact ⟨k + 1, q + 1, by omega, by omega, by go_num, by go_num, rfl, by have := HSU.out; have := HQ.out; simp at *; omega, by omega⟩
      · obtain rfl : k = j := by omega
        have i1 : ¬ (k : Int) < k := by omega
        have hq2 : cnt (bitN ws) k - cnt (bitN ws) i = q := by have := HQ.out; omega
        rw [hq2] at E
        go_wp2_with fail
        go_ret2
        exact intErr_mk E.out HB2.out
end Go.Proofs.YtocgdibadcmnfaaDoor
