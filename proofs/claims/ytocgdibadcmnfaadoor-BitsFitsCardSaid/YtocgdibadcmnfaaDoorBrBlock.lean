/- The reference's Block. -/
import Derived.Test.YtocgdibadcmnfaaDoorBrFree
namespace Go.Proofs.YtocgdibadcmnfaaDoor
open Go.RowKit Go.Shelf
set_option maxHeartbeats 2000000 in
set_option maxRecDepth 100000 in
theorem rBlock_any (n : Int) (p : Option Addr) (cap : Nat) (ws : List Nat) (o : Int) (w : World) (h : WordsAt w p ws) :
    Calls Tryd.prog 40 #[.agg #[.int .i64 n, .slice p ws.length cap], .int .i64 o] w (IntErr (blockR n ws o) w) := by
  have ck := fun W (hW : Below w.heap.size w W) => rcheck_any n p cap ws W (h.below hW)
  have e : blockR n ws o = if blockE n ws o ≠ 0 then (0, blockE n ws o) else findR (blockP (bitN ws) (2 ^ o.toNat) n.toNat) n.toNat := rfl
  have ee : blockE n ws o = if checkR n ws ≠ 0 then checkR n ws else if o < 0 ∨ 12 < o then 7 else 0 := rfl
  have hok := checkR_ok (n := n) h.lt
  have HW := Lib.hid h
  generalize checkR n ws = c at ck ee hok
  generalize blockR n ws o = r at e
  generalize blockE n ws o = er at e ee
  have CK := Lib.hid ck
  clear ck h
  by_cases hc : c ≠ 0
  · rw [if_pos hc] at ee
    subst ee
    rw [if_pos hc] at e
    have E := Lib.hid e
    obtain ⟨t1, t2⟩ := neq0 hc
    clear e hc hok
    go_enter Tryd.func40, Tryd.ntmps40
    go_wp2_with (go_at_call 20; refine (CK.out _ ((Below.refl _ _).alloc (Nat.le_refl _) _)).mono ?_; rintro e w1 ⟨rfl, hb⟩; have HB1 := Lib.hid (boxB hb); clear hb)
    go_ret2
    exact intErr_mk E.out HB1.out
  · obtain rfl : c = 0 := Classical.not_not.1 hc
    rw [if_neg (by simp)] at ee
    by_cases h1 : o < 0 ∨ 12 < o
    · rw [if_pos h1] at ee
      subst ee
      rw [if_pos (by decide)] at e
      have E := Lib.hid e
      have h2' : o < 0 ∨ (¬ o < 0 ∧ 12 < o) := by omega
      clear e hok hc h1
      rcases h2' with q1 | ⟨q1, q2⟩
      all_goals
        go_enter Tryd.func40, Tryd.ntmps40
        go_wp2_with (go_at_call 20; refine (CK.out _ ((Below.refl _ _).alloc (Nat.le_refl _) _)).mono ?_; rintro e w1 ⟨rfl, hb⟩; have HB1 := Lib.hid (boxB hb); clear hb)
        go_ret2
        exact intErr_mk E.out HB1.out
    · rw [if_neg h1] at ee
      subst ee
      rw [if_neg (by simp)] at e
      obtain ⟨hn0, hv⟩ := hok rfl
      obtain ⟨m, rfl⟩ : ∃ m : Nat, n = (m : Int) := ⟨n.toNat, by omega⟩
      obtain ⟨k, rfl⟩ : ∃ k : Nat, o = (k : Int) := ⟨o.toNat, by omega⟩
      rw [Int.toNat_natCast, Int.toNat_natCast] at e
      rw [Int.toNat_natCast] at hv
      have hm := hv.le
      obtain ⟨s1, s2, s3, s4⟩ := size_val k (by omega)
      obtain ⟨s, hs⟩ : ∃ s : Nat, s = 2 ^ k := ⟨_, rfl⟩
      rw [← hs] at s1 s2 s3 s4 e
      have s6 : (2 : Int) ^ k = ((s : Nat) : Int) := by rw [hs]; simp
      have s7 : wrap64 ((s : Nat) : Int) = ((s : Nat) : Int) := IntWalk.wrap64_in _ (by omega)
      have S6 := Lib.hid s6; have S7 := Lib.hid s7; have HS := Lib.hid hs
      have cl := fun W (hW : Below w.heap.size w W) => rlist_any m p cap ws W (HW.out.below hW) hv
      unfold ListPost at cl
      have CL := Lib.hid cl; have E := Lib.hid e
      have k0 : (0 : Int) ≤ k := by omega
      have k12 : (k : Int) ≤ 12 := by omega
      have z0 : (0 : Int) ≤ s := by omega
      have z5 : (s : Int) ≤ 4096 := by omega
      clear e cl hok hv hc hn0 h1 s1 s2 s6 s7 hs
      go_enter Tryd.func40, Tryd.ntmps40
      go_wp2_with fail
      refine (CK.out _ ((Below.refl _ _).alloc (Nat.le_refl _) _)).mono ?_
      rintro e w1 ⟨rfl, hb⟩
      have HB1 := Lib.hid (boxB hb); have HX1 := Lib.hid ((box0 w m (.slice p ws.length cap)).below hb)
      clear hb
      have c0 := HX1.out.c0; have c1 := HX1.out.c1
      go_wp2_with fail
      refine (CL.out _ HB1.out).mono ?_
      rintro e w2 ⟨v, rfl, hb, ho⟩
      obtain ⟨pb, cb, rfl, hbo⟩ := own_bools ho
      have HB2 := Lib.hid (HB1.out.trans (hb.mono HB1.out.size)); have HBO := Lib.hid hbo
      clear hb ho hbo c0 c1
      go_wp2_with fail
      rw [S6.out, S7.out]
      go_loopg [9] (m + s) (fun n1 i wr => ∃ q : Nat, q + n1 = m + s ∧ q % s = 0 ∧ i = .int .i64 q ∧ wr = w2 ∧ ∀ i, i < q → blockP (bitN ws) s m i = false)
      case atStart => exact ⟨0, by omega, Nat.zero_mod _, by go_num, rfl, fun i h => absurd h (Nat.not_lt_zero _)⟩
      case round =>
        obtain ⟨q, hqn, hqs, rfl, rfl, hno⟩ := hrel
        have HNO := Lib.hid hno; have HQS := Lib.hid hqs
        clear hno hqs
        by_cases hlt : q < m
        · have cf := rfree_any (bitN ws) q s m pb cb wr hm (by omega) s4 HBO.out
          have q0 : (0 : Int) ≤ q := by omega
          have q4 : (q : Int) ≤ 4096 := by omega
          have i1 : (q : Int) < m := by omega
          have hP : blockP (bitN ws) s m q = freeP (bitN ws) m s q := by
            unfold blockP freeP
            have h1 : (q % s == 0) = true := by rw [HQS.out]; rfl
            rw [h1, Bool.true_and]
          cases hb : freeP (bitN ws) m s q
          · rw [hb] at cf hP
            have CF := Lib.hid cf
            have hnx : ∀ i, i < q + s → blockP (bitN ws) s m i = false := by
              intro i hi
              by_cases h1 : i < q
              · exact HNO.out i h1
              · by_cases h2 : i % s = 0
                · obtain rfl := mult_step s3 HQS.out (by omega) hi h2
                  exact hP
                · unfold blockP
                  have : (i % s == 0) = false := beq_eq_false_iff_ne.2 h2
                  rw [this]; rfl
            have HNX := Lib.hid hnx
            clear hb cf hP hnx
            go_wp2_with (go_at_call 66; refine CF.out.mono ?_; rintro e w' ⟨rfl, rfl⟩)
            go_roundg (gk - s)
            case measure => omega
            case rel => exact ⟨q + s, by omega, by rw [Nat.add_mod_right]; exact HQS.out, by go_num, rfl, HNX.out⟩
          · rw [hb] at cf hP
            have CF := Lib.hid cf
            have HF := Lib.hid (E.out.trans (findR_some hlt hP HNO.out))
            clear hb cf hP
            go_wp2_with (go_at_call 66; refine CF.out.mono ?_; rintro e w' ⟨rfl, rfl⟩)
            go_ret2
            exact intErr_mk HF.out HB2.out
        · have HF := Lib.hid (E.out.trans (findR_none fun i hi => HNO.out i (by omega)))
          have i1 : ¬ (q : Int) < m := by omega
          go_wp2_with fail
          go_ret2
          exact intErr_mk HF.out HB2.out
end Go.Proofs.YtocgdibadcmnfaaDoor
