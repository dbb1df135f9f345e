/- BitsTurns: the walk. -/
import Derived.Test.YtocgdibadcmnfaaDoorBtTurnMath
import Derived.Test.YtocgdibadcmnfaaDoorBtRunsAny
import Derived.Test.YtocgdibadcmnfaaDoorBtRCheck
import Derived.Test.YtocgdibadcmnfaaDoorBtAwake
import Derived.Test.YtocgdibadcmnfaaDoorWBSelects
namespace Go.Proofs.YtocgdibadcmnfaaDoor
open Go.RowKit Go.Shelf

/-- The runs of a list lie where this address says. -/
def RunsAt (W : World) (p : Option Addr) (L : List (Nat × Nat)) : Prop := 0 < L.length → ∃ g, p = some ⟨g, 0, none⟩ ∧ g < W.heap.size ∧ ∀ j (hj : j < L.length), W.cell? ⟨g, j * 2, none⟩ = some (.int .i64 ((L[j]'hj).1 : Int)) ∧ W.cell? ⟨g, j * 2 + 1, none⟩ = some (.int .i64 ((L[j]'hj).2 : Int))
theorem RunsAt.below {W W' : World} {p : Option Addr} {L : List (Nat × Nat)} (h : RunsAt W p L) (hb : Below W.heap.size W W') : RunsAt W' p L := fun h0 => by
  obtain ⟨g, e, hg, hc⟩ := h h0
  exact ⟨g, e, Nat.lt_of_lt_of_le hg hb.size, fun j hj => ⟨(hb.cell (p := ⟨g, j * 2, none⟩) hg).trans (hc j hj).1, (hb.cell (p := ⟨g, j * 2 + 1, none⟩) hg).trans (hc j hj).2⟩⟩
theorem runC_get (L : List (Nat × Nat)) : ∀ j (hj : j < L.length), (runC L)[j * 2]? = some (.int .i64 ((L[j]'hj).1 : Int)) ∧ (runC L)[j * 2 + 1]? = some (.int .i64 ((L[j]'hj).2 : Int)) := by
  induction L with
  | nil => intro j hj; exact absurd hj (Nat.not_lt_zero _)
  | cons r L ih =>
    intro j hj
    have e : runC (r :: L) = .int .i64 (r.1 : Int) :: .int .i64 (r.2 : Int) :: runC L := by simp [runC]
    rw [e]
    match j with
    | 0 => exact ⟨rfl, rfl⟩
    | j + 1 =>
      have := ih j (by simpa using hj)
      rw [show (j + 1) * 2 = j * 2 + 1 + 1 by omega]
      simpa using this
theorem own_runsAt {w : World} {base : Nat} {v : Value} {L : List (Nat × Nat)} (h : w.ownsRow base 53 2 v L.length (runC L)) : ∃ p cap, v = .slice p L.length cap ∧ RunsAt w p L := by
  rcases h.2 with ⟨rfl, h0⟩ | ⟨g, cap, cur, rfl, hb, hg, _⟩
  · exact ⟨none, 0, by rw [h0], fun h => by omega⟩
  · refine ⟨some ⟨g, 0, none⟩, cap, rfl, fun _ => ⟨g, rfl, (Array.getElem?_eq_some_iff.1 hg).1, fun j hj => ?_⟩⟩
    have hc := h.cells (g := g) rfl
    obtain ⟨h1, h2⟩ := runC_get L j hj
    have k1 := hc _ _ h1
    have k2 := hc _ _ h2
    rw [WideShapes.add_plain, Nat.zero_add] at k1 k2
    exact ⟨k1, k2⟩
theorem runsR_in {m : Nat} {ws : List Nat} (hv : Valid m ws) (on : Bool) : runsR m ws on = (runsL (bitN ws) on m 0, 0) := by
  unfold runsR
  rw [checkR_of hv, if_neg (by simp), Int.toNat_natCast]

set_option maxHeartbeats 4000000 in
set_option maxRecDepth 100000 in
theorem turns_walk (n : Int) (p : Option Addr) (cap : Nat) (ws : List Nat) (w : World) (h : WordsAt w p ws) (he : BEnv w) :
    Calls Tryd.prog 9 #[.agg #[.int .i64 n, .slice p ws.length cap]] w (TruePost w) := by
  have ck := fun W (hW : Below w.heap.size w W) => rcheck_any n p cap ws W (h.below hW)
  have ca := fun W (hW : Below w.heap.size w W) => awake_any W (he.below hW)
  unfold TruePost at ca
  have hok := checkR_ok (n := n) h.lt
  have HW := Lib.hid h; have HE := Lib.hid he
  have CA := Lib.hid ca
  generalize checkR n ws = c at ck hok
  have CK := Lib.hid ck
  clear ck ca h he
  by_cases hc : c ≠ 0
  · obtain ⟨t1, t2⟩ := neq0 hc
    clear hc hok
    go_enter Tryd.func9, Tryd.ntmps9
    go_wp2_with (first
      | (go_at_call 20; refine (CK.out _ ((Below.refl _ _).alloc (Nat.le_refl _) _)).mono ?_; rintro e w1 ⟨rfl, hb⟩; have HB := Lib.hid (boxB hb); clear hb)
      | (go_at_call 14; refine (CA.out _ HB.out).mono ?_; rintro e w2 ⟨rfl, hb⟩; have HB2 := Lib.hid (HB.out.trans (hb.mono HB.out.size)); clear hb))
    go_ret
    exact ⟨rfl, HB2.out⟩
  · obtain rfl : c = 0 := Classical.not_not.1 hc
    obtain ⟨hn0, hv⟩ := hok rfl
    obtain ⟨m, rfl⟩ : ∃ m : Nat, n = (m : Int) := ⟨n.toNat, by omega⟩
    rw [Int.toNat_natCast] at hv
    have hm := hv.le
    have m4 : (m : Int) ≤ 4096 := by omega
    have m0 : (0 : Int) ≤ m := by omega
    have cR := fun (on : Bool) W (hW : Below w.heap.size w W) => Runs_any m p cap ws on W (HW.out.below hW) (HE.out.below hW)
    have cC := fun W (hW : Below w.heap.size w W) => count_any m p cap ws 0 m W (HW.out.below hW)
    rw [count_in hv (Nat.le_refl m)] at cC
    have cT := cR true
    have cF := cR false
    rw [runsR_in hv] at cT cF
    unfold IntErr at cC
    unfold RunsPost at cT cF
    simp only at cT cF
    obtain ⟨L, hL⟩ : ∃ L, L = runsL (bitN ws) true m 0 := ⟨_, rfl⟩
    obtain ⟨M, hM⟩ : ∃ M, M = runsL (bitN ws) false m 0 := ⟨_, rfl⟩
    have l1 : L.length ≤ m + 1 := by rw [hL]; exact runsF_len _ _ _ _ _
    have l2 : M.length ≤ m + 1 := by rw [hM]; exact runsF_len _ _ _ _ _
    rw [← hL] at cT
    rw [← hM] at cF
    have hcl := cnt_le (bitN ws)
    obtain ⟨N, hN⟩ : ∃ N, N = cnt (bitN ws) m := ⟨_, rfl⟩
    rw [← hN] at cC
    have n0' : (0 : Int) ≤ N := by omega
    have n4' : (N : Int) ≤ 4096 := by have := hcl m; omega
    have l1' : (L.length : Int) ≤ 4097 := by omega
    have l2' : (M.length : Int) ≤ 4097 := by omega
    have CC := Lib.hid cC; have CT := Lib.hid cT; have CF := Lib.hid cF; have HL := Lib.hid hL; have HM := Lib.hid hM; have HN := Lib.hid hN; have HCL := Lib.hid hcl
    clear hc hok hv hn0 cC cR cT cF hL hM hN hcl hm l1 l2
    go_enter Tryd.func9, Tryd.ntmps9
    go_wp2_with fail
    refine (CK.out _ ((Below.refl _ _).alloc (Nat.le_refl _) _)).mono ?_
    rintro e w1 ⟨rfl, hb⟩
    have HB1 := Lib.hid (boxB hb); have HX1 := Lib.hid ((box0 w m (.slice p ws.length cap)).below hb)
    clear hb
    have c0 := HX1.out.c0; have c1 := HX1.out.c1
    go_wp2_with fail
    refine (CT.out _ HB1.out).mono ?_
    rintro e w2 ⟨v1, rfl, hb, ho⟩
    obtain ⟨p1, cap1, rfl, hr1⟩ := own_runsAt ho
    have HB2 := Lib.hid (HB1.out.trans (hb.mono HB1.out.size)); have HX2 := Lib.hid (HX1.out.below hb); have HR1 := Lib.hid hr1
    clear hb c0 c1 ho hr1
    have c0 := HX2.out.c0; have c1 := HX2.out.c1
    go_wp2_with fail
    refine (CF.out _ HB2.out).mono ?_
    rintro e w3 ⟨v2, rfl, hb, ho⟩
    obtain ⟨p2, cap2, rfl, hr2⟩ := own_runsAt ho
    have HB3 := Lib.hid (HB2.out.trans (hb.mono HB2.out.size)); have HX3 := Lib.hid (HX2.out.below hb); have HR2 := Lib.hid hr2; have HR1b := Lib.hid (HR1.out.below hb)
    clear hb c0 c1 ho hr2
    have c0 := HX3.out.c0; have c1 := HX3.out.c1
    go_wp2_with fail
    refine (CC.out _ HB3.out).mono ?_
    rintro e w4 ⟨rfl, hb⟩
    have HB4 := Lib.hid (HB3.out.trans (hb.mono HB3.out.size)); have HX4 := Lib.hid (HX3.out.below hb); have HR2c := Lib.hid (HR2.out.below hb); have HR1c := Lib.hid (HR1b.out.below hb)
    clear hb c0 c1
    go_wp2_with fail
    go_loopg [7, 9, 10, 11] m (fun gk nv av iv kv wr => ∃ at_ i k : Nat, at_ + gk = m ∧ nv = .int .i64 ((N : Int) - (cnt (bitN ws) at_ : Nat)) ∧ av = .int .i64 (at_ : Int) ∧ iv = .int .i64 (i : Int) ∧ kv = .int .i64 (k : Int) ∧ TurnI (bitN ws) true m L M at_ i k ∧ Below w4.heap.size w4 wr)
    case atStart => exact ⟨0, 0, 0, by omega, by simp [cnt], rfl, rfl, rfl, turn_start _ _ _ _ _, Below.refl _ _⟩
    case round =>
      obtain ⟨at_, i, k, hgk, rfl, rfl, rfl, rfl, hT, hbw⟩ := hrel
      have HB := Lib.hid hbw; have HX := Lib.hid (HX4.out.below hbw); have HT := Lib.hid hT
      clear hbw hT
      by_cases hat : at_ = m
      · subst hat
        obtain ⟨rfl, rfl⟩ := turn_last HL.out HM.out HT.out
        rw [← HN.out]
        have z0 : ((N : Int) - (N : Int) == 0) = true := by rw [beq_iff_eq]; omega
        have c0 := HX.out.c0; have c1 := HX.out.c1
        have HB5 := Lib.hid (HB4.out.trans (HB.out.mono HB4.out.size))
        go_wp2_with (go_at_call 14; refine (CA.out _ HB5.out).mono ?_; rintro e w6 ⟨rfl, hb⟩; have HB6 := Lib.hid (HB5.out.trans (hb.mono HB5.out.size)); clear hb)
        go_ret
        exact ⟨rfl, HB6.out⟩
      · have hlt : at_ < m := by omega
        cases hf : bitN ws at_ with
        | true =>
          obtain ⟨T, hi, e1, e2, g1, g2, g3, g4, g5, g6⟩ := turn_t HL.out HM.out HT.out hlt hf
          obtain ⟨g, rfl, hg, hcells⟩ := (HR1c.out.below HB.out) (by omega)
          have c1 := (hcells i hi).1
          have c2 := (hcells i hi).2
          rw [e1] at c1
          rw [e2] at c2
          have G3 := Lib.hid g3; have G6 := Lib.hid g6
          have i1 : (i : Int) < L.length := by omega
          have i0 : (0 : Int) ≤ i := by omega
          have a0 : (0 : Int) ≤ at_ := by omega
          have a1 : (at_ : Int) < T := by omega
          have a2 : (T : Int) ≤ 4096 := by omega
          have na : ¬ (T : Int) ≤ at_ := by omega
          have q1 : ((at_ : Int) == (at_ : Int)) = true := beq_self_eq_true _
          have hca := HCL.out at_
          generalize cnt (bitN ws) at_ = C at G3 hca ⊢
          have C0 : (0 : Int) ≤ C := by omega
          have C4 : (C : Int) ≤ 4096 := by omega
          clear hcells g1 g3 g6 hat hf e1 e2
          by_cases hk : k = 0
          · subst hk
            obtain rfl := g4 rfl
            clear g4 g5
            go_wp2_with fail
            go_quiet (fail)
            go_wp2_with fail
            go_roundg (m - T)
            case measure => omega
            case rel => exact ⟨T, i + 1, 0, by omega, by rw [G3.out]; go_num, rfl, by go_num, rfl, G6.out, HB.out.trans (drewB _ _ _)⟩
          · obtain ⟨k', rfl⟩ : ∃ k', k = k' + 1 := ⟨k - 1, by omega⟩
            obtain ⟨hk1, e3⟩ := g5 (by omega)
            simp only [Nat.add_sub_cancel] at hk1 e3
            obtain ⟨g', rfl, hg', hcells'⟩ := (HR2c.out.below HB.out) (by omega)
            have c3 := (hcells' k' hk1).2
            rw [e3] at c3
            have k1 : (k' : Int) < M.length := by omega
            have k0 : (0 : Int) ≤ k' := by omega
            have kp : ((k' : Int) + 1 == 0) = false := beq_eq_false_iff_ne.2 (by omega)
            have q2 : ((at_ : Int) != (at_ : Int)) = false := by simp
            clear g4 g5 hcells' e3 hk
            go_wp2_with fail
            go_quiet (fail)
            go_wp2_with fail
            go_roundg (m - T)
            case measure => omega
            case rel => exact ⟨T, i + 1, k' + 1, by omega, by rw [G3.out]; go_num, rfl, by go_num, by go_num, G6.out, HB.out.trans (drewB _ _ _)⟩
        | false =>
          obtain ⟨T, hk, e1, e2, g1, g2, g3, g4, g5, gne, g6⟩ := turn_f HL.out HM.out HT.out hlt hf
          obtain ⟨g, rfl, hg, hcells⟩ := (HR2c.out.below HB.out) (by omega)
          have c1 := (hcells k hk).1
          have c2 := (hcells k hk).2
          rw [e1] at c1
          rw [e2] at c2
          have G3 := Lib.hid g3; have G6 := Lib.hid g6
          have i1 : (k : Int) < M.length := by omega
          have i0 : (0 : Int) ≤ k := by omega
          have a0 : (0 : Int) ≤ at_ := by omega
          have a1 : (at_ : Int) < T := by omega
          have a2 : (T : Int) ≤ 4096 := by omega
          have na : ¬ (T : Int) ≤ at_ := by omega
          have q1 : ((at_ : Int) == (at_ : Int)) = true := beq_self_eq_true _
          have hca := HCL.out at_
          rw [← g3] at hca
          have hle := HT.out.li
          generalize cnt (bitN ws) at_ = C at G3 hca ⊢
          clear hcells g1 g3 g6 hat hf e1 e2
          by_cases hil : i < L.length
          · have i2 : (i : Int) < L.length := by omega
            have i3 : (0 : Int) ≤ i := by omega
            obtain ⟨g', rfl, hg', hcells'⟩ := (HR1c.out.below HB.out) (by omega)
            have c4 := (hcells' i hil).1
            have hne := gne hil
            generalize (L[i]'hil).1 = X at c4 hne
            have q3 : ((X : Int) == (at_ : Int)) = false := beq_eq_false_iff_ne.2 (by omega)
            clear gne hne
            by_cases hi0 : i = 0
            · subst hi0
              obtain rfl := g4 rfl
              clear g4 g5 hcells'
              go_wp2_with fail
              go_roundg (m - T)
              case measure => omega
              case rel => exact ⟨T, _, k + 1, by omega, by rw [G3.out], rfl, rfl, by go_num, G6.out, HB.out⟩
            · obtain ⟨i', rfl⟩ : ∃ i', i = i' + 1 := ⟨i - 1, by omega⟩
              obtain ⟨hi1, e3⟩ := g5 (by omega)
              simp only [Nat.add_sub_cancel] at hi1 e3
              have c3 := (hcells' i' hi1).2
              rw [e3] at c3
              have i4 : (i' : Int) < L.length := by omega
              have i5 : (0 : Int) ≤ i' := by omega
              have q2 : ((at_ : Int) != (at_ : Int)) = false := by simp
              have kp : ((i' : Int) + 1 == 0) = false := beq_eq_false_iff_ne.2 (by omega)
              clear g4 g5 hcells' e3 hi0
              go_wp2_with fail
              go_roundg (m - T)
              case measure => omega
              case rel => exact ⟨T, _, k + 1, by omega, by rw [G3.out], rfl, rfl, by go_num, G6.out, HB.out⟩
          · have i2 : ¬ (i : Int) < L.length := by omega
            by_cases hi0 : i = 0
            · subst hi0
              obtain rfl := g4 rfl
              have i6 : ¬ (0 : Int) < L.length := by omega
              clear g4 g5 gne
              go_wp2_with fail
              go_roundg (m - T)
              case measure => omega
              case rel => exact ⟨T, _, k + 1, by omega, by rw [G3.out], rfl, rfl, by go_num, G6.out, HB.out⟩
            · obtain ⟨i', rfl⟩ : ∃ i', i = i' + 1 := ⟨i - 1, by omega⟩
              obtain ⟨hi1, e3⟩ := g5 (by omega)
              simp only [Nat.add_sub_cancel] at hi1 e3
              obtain ⟨g', rfl, hg', hcells'⟩ := (HR1c.out.below HB.out) (by omega)
              have c3 := (hcells' i' hi1).2
              rw [e3] at c3
              have i4 : (i' : Int) < L.length := by omega
              have i5 : (0 : Int) ≤ i' := by omega
              have q2 : ((at_ : Int) != (at_ : Int)) = false := by simp
              have kp : ((i' : Int) + 1 == 0) = false := beq_eq_false_iff_ne.2 (by omega)
              clear g4 g5 gne hcells' e3 hi0
              go_wp2_with fail
              go_roundg (m - T)
              case measure => omega
              case rel => exact ⟨T, _, k + 1, by omega, by rw [G3.out], rfl, rfl, by go_num, G6.out, HB.out⟩
end Go.Proofs.YtocgdibadcmnfaaDoor
