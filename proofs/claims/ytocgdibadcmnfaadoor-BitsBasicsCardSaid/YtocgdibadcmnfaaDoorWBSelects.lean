/- BitsSelects: the walk. -/
import Derived.Test.YtocgdibadcmnfaaDoorBtRCheck
import Derived.Test.YtocgdibadcmnfaaDoorBtAwake
import Derived.Test.YtocgdibadcmnfaaDoorBtLastAny
import Derived.Test.YtocgdibadcmnfaaDoorWBSearch
namespace Go.Proofs.YtocgdibadcmnfaaDoor
open Go.RowKit Go.Shelf

def cntv (on : Bool) (x c : Nat) : Nat := if on then c else x - c
theorem cnt_on (f : Nat → Bool) (on : Bool) (x : Nat) : cnt (onB f on) x = cntv on x (cnt f x) := by
  cases on
  · unfold cntv
    rw [if_neg (by decide), ← cnt_not]
    exact cnt_congr _ fun i _ => by unfold onB; cases f i <;> rfl
  · unfold cntv
    rw [if_pos rfl]
    exact cnt_congr _ fun i _ => by unfold onB; cases f i <;> rfl
theorem runR_in {m : Nat} {ws : List Nat} (hv : Valid m ws) {a b : Nat} (h1 : a ≤ b) (h2 : b ≤ m) : runR m ws (a : Int) (b : Int) = 0 := by
  unfold runR; rw [checkR_of hv]; simp; omega
theorem count_in {m : Nat} {ws : List Nat} (hv : Valid m ws) {b : Nat} (h2 : b ≤ m) : countR m ws 0 (b : Int) = (((cnt (bitN ws) b : Nat) : Int), 0) := by
  have := runR_in hv (Nat.zero_le b) h2
  unfold countR
  rw [show ((0 : Nat) : Int) = 0 from rfl] at this
  rw [this, if_neg (by simp), Int.toNat_natCast]; simp [cnt]
theorem select_in {m : Nat} {ws : List Nat} (hv : Valid m ws) (k : Nat) (on : Bool) : selectR m ws (k : Int) on = findR (selP (onB (bitN ws) on) k) m := by
  unfold selectR
  rw [checkR_of hv, if_neg (by simp), if_neg (by omega), Int.toNat_natCast, Int.toNat_natCast]
theorem next_in {m : Nat} {ws : List Nat} (hv : Valid m ws) {a : Nat} (ha : a ≤ m) (on : Bool) : nextR m ws (a : Int) on = findR (fromB (bitN ws) on a) m := by
  unfold nextR
  rw [runR_in hv ha (Nat.le_refl m), if_neg (by simp), Int.toNat_natCast, Int.toNat_natCast]
theorem last_in' {m : Nat} {ws : List Nat} (hv : Valid m ws) {b : Nat} (hb : b ≤ m) (on : Bool) : lastR m ws (b : Int) on = lastF (onB (bitN ws) on) b := by
  have := runR_in hv (Nat.zero_le b) hb
  rw [show ((0 : Nat) : Int) = 0 from rfl] at this
  unfold lastR
  rw [this, if_neg (by simp), Int.toNat_natCast]
/-- What is known of Select where the bits are valid. -/
theorem selects_facts {m : Nat} {ws : List Nat} (hv : Valid m ws) (k : Nat) (on : Bool) :
    (selectR m ws (k : Int) on = (0, 4) ∧ ∃ c : Nat, countR m ws 0 (m : Int) = ((c : Int), 0) ∧ c ≤ m ∧ cntv on m c ≤ k) ∨
    ∃ i c d : Nat, i < m ∧ selectR m ws (k : Int) on = ((i : Int), 0) ∧ countR m ws 0 (m : Int) = ((c : Int), 0) ∧ c ≤ m ∧ k < cntv on m c ∧ getR m ws (i : Int) = (on, 0) ∧ countR m ws 0 (i : Int) = ((d : Int), 0) ∧ d ≤ i ∧ cntv on i d = k ∧
      ((k = 0 ∧ lastR m ws (i : Int) on = (0, 4) ∧ nextR m ws 0 on = ((i : Int), 0)) ∨
       ∃ j : Nat, 1 ≤ k ∧ j < i ∧ selectR m ws ((k : Int) - 1) on = ((j : Int), 0) ∧ lastR m ws (i : Int) on = ((j : Int), 0) ∧ nextR m ws ((j : Int) + 1) on = ((i : Int), 0)) := by
  have hle := fun b => cnt_le (bitN ws) b
  have hco := fun x => cnt_on (bitN ws) on x
  have hbt : ∀ i, onB (bitN ws) on i = true → bitN ws i = on := fun i h => by unfold onB at h; exact beq_iff_eq.1 h
  rw [select_in hv, count_in hv (Nat.le_refl m)]
  rcases findR_cases (selP (onB (bitN ws) on) k) m with ⟨i, hi, hp, _, e⟩ | ⟨hn, e⟩
  · right
    unfold selP at hp
    simp only [Bool.and_eq_true, beq_iff_eq] at hp
    obtain ⟨hg, hk⟩ := hp
    have hkm := cnt_lt (onB (bitN ws) on) hi hg
    rw [hk, hco] at hkm
    refine ⟨i, cnt (bitN ws) m, cnt (bitN ws) i, hi, e, rfl, hle m, hkm, ?_, count_in hv (by omega), hle i, by rw [← hco]; exact hk, ?_⟩
    · unfold getR
      rw [checkR_of hv, if_neg (by simp), if_neg (by omega), Int.toNat_natCast, hbt i hg]
    · rw [last_in' hv (by omega)]
      by_cases hk0 : k = 0
      · left
        have hz : ∀ j, j < i → onB (bitN ws) on j = false := fun j hj => by
          cases hgj : onB (bitN ws) on j with
          | false => rfl
          | true => have := cnt_lt (onB (bitN ws) on) hj hgj; omega
        refine ⟨hk0, lastF_none hz, ?_⟩
        have h0 := next_in hv (Nat.zero_le m) on
        rw [show ((0 : Nat) : Int) = 0 from rfl] at h0
        rw [h0]
        exact findR_some hi (by unfold fromB; simp [hg]) fun j hj => by unfold fromB; simp [hz j hj]
      · right
        obtain ⟨j, hj, hgj, hcj⟩ := cnt_find (onB (bitN ws) on) i (k - 1) (by omega)
        have hz : ∀ t, j < t → t < i → onB (bitN ws) on t = false := fun t h1 h2 => by
          cases hgt : onB (bitN ws) on t with
          | false => rfl
          | true =>
            have h3 := cnt_lt (onB (bitN ws) on) h2 hgt
            have h4 := cnt_lt (onB (bitN ws) on) h1 hgj
            omega
        refine ⟨j, by omega, hj, ?_, lastF_some hgj hj hz, ?_⟩
        · rw [show ((k : Int) - 1) = ((k - 1 : Nat) : Int) by omega, select_in hv]
          exact sel_some (by omega) hgj hcj
        · rw [show ((j : Int) + 1) = ((j + 1 : Nat) : Int) by omega, next_in hv (by omega)]
          refine findR_some hi (by unfold fromB; simp [hg]; omega) fun t ht => ?_
          unfold fromB
          by_cases h5 : j + 1 ≤ t
          · simp [hz t (by omega) ht]
          · have : decide (j + 1 ≤ t) = false := by simp; omega
            rw [this]; rfl
  · left
    refine ⟨e, cnt (bitN ws) m, rfl, hle m, ?_⟩
    rw [← hco]
    apply Classical.byContradiction
    intro hlt
    obtain ⟨i, hi, hg, hc⟩ := cnt_find (onB (bitN ws) on) m k (by omega)
    have := hn i hi
    unfold selP at this
    rw [hg, hc] at this; simp at this

set_option maxHeartbeats 4000000 in
set_option maxRecDepth 100000 in
theorem selects_walk (n : Int) (p : Option Addr) (cap : Nat) (ws : List Nat) (k : Nat) (on : Bool) (w : World) (h : WordsAt w p ws) (he : BEnv w) (hk : k ≤ 65535) :
    Calls Tryd.prog 8 #[.agg #[.int .i64 n, .slice p ws.length cap], .int .u16 (k : Int), .bool on] w (TruePost w) := by
  have ck := fun W (hW : Below w.heap.size w W) => rcheck_any n p cap ws W (h.below hW)
  have ca := fun W (hW : Below w.heap.size w W) => awake_any W (he.below hW)
  unfold TruePost at ca
  have hok := checkR_ok (n := n) h.lt
  have HW := Lib.hid h; have HE := Lib.hid he
  have CA := Lib.hid ca
  generalize checkR n ws = c at ck hok
  have CK := Lib.hid ck
  have k0 : (0 : Int) ≤ k := by omega
  have k6 : (k : Int) ≤ 65535 := by omega
  clear ck ca h he
  by_cases hc : c ≠ 0
  · obtain ⟨t1, t2⟩ := neq0 hc
    clear hc hok
    go_enter Tryd.func8, Tryd.ntmps8
    go_wp2_with (first
      | (go_at_call 20; refine (CK.out _ ((Below.refl _ _).alloc (Nat.le_refl _) _)).mono ?_; rintro e w1 ⟨rfl, hb⟩; have HB := Lib.hid (boxB hb); clear hb)
      | (go_at_call 14; refine (CA.out _ HB.out).mono ?_; rintro e w2 ⟨rfl, hb⟩; have HB2 := Lib.hid (HB.out.trans (hb.mono HB.out.size)); clear hb))
    go_ret
    exact ⟨rfl, HB2.out⟩
  · obtain rfl : c = 0 := Classical.not_not.1 hc
    obtain ⟨hn0, hv⟩ := hok rfl
    obtain ⟨m, rfl⟩ : ∃ m : Nat, n = (m : Int) := ⟨n.toNat, by omega⟩
    rw [Int.toNat_natCast] at hv
    have hm := hv.le
    have m4 : (m : Int) ≤ 4096 := by omega
    have m0 : (0 : Int) ≤ m := by omega
    have hsf := selects_facts hv k on
    have cS := fun (k : Int) (hk : k ≤ 9223372036854775807) W (hW : Below w.heap.size w W) => select_any m p cap ws k on W (HW.out.below hW) hk (HE.out.below hW)
    have cC := fun (i j : Int) W (hW : Below w.heap.size w W) => count_any m p cap ws i j W (HW.out.below hW)
    have cN := fun (i : Int) W (hW : Below w.heap.size w W) => Next_any m p cap ws i on W (HW.out.below hW) (HE.out.below hW)
    have cL := fun (i : Int) W (hW : Below w.heap.size w W) => last_any m p cap ws i on W (HW.out.below hW)
    have cG := fun (i : Int) W (hW : Below w.heap.size w W) => get_any m p cap ws i W (HW.out.below hW)
    unfold IntErr at cS cC cN cL
    unfold BoolErr at cG
    have CS := Lib.hid cS; have CC := Lib.hid cC; have CN := Lib.hid cN; have CL := Lib.hid cL; have CG := Lib.hid cG
    clear hc hok hv hn0 cS cC cN cL cG hk hm
    rcases hsf with ⟨hS, c, hC, hcm, hck⟩ | ⟨i, c, d, him, hS, hC, hcm, hck, hG, hD, hdi, hdk, hsf⟩
    · have cS := CS.out (k : Int) (by omega); rw [hS] at cS; have CS1 := Lib.hid cS; have cC := CC.out 0 (m : Int); rw [hC] at cC; have CC1 := Lib.hid cC
      have c0' : (0 : Int) ≤ c := by omega
      have c1' : (c : Int) ≤ m := by omega
      clear cS cC hS hC
      cases on
      all_goals
        have hlt : cntv _ m c ≤ k := hck
        simp only [cntv, if_true, Bool.false_eq_true, if_false] at hlt
        clear hck
        first
          | have hno : ¬ (k : Int) < (m : Int) - (c : Int) := by omega
          | have hno : ¬ (k : Int) < (c : Int) := by omega
        clear hlt
        go_enter Tryd.func8, Tryd.ntmps8
        go_wp2_with fail
        refine (CK.out _ ((Below.refl _ _).alloc (Nat.le_refl _) _)).mono ?_
        rintro e w1 ⟨rfl, hb⟩
        have HB1 := Lib.hid (boxB hb); have HX1 := Lib.hid ((box0 w m (.slice p ws.length cap)).below hb)
        clear hb
        have c0 := HX1.out.c0; have c1 := HX1.out.c1
        go_wp2_with fail
        refine (CS1.out _ HB1.out).mono ?_
        rintro e w2 ⟨rfl, hb⟩
        have HB2 := Lib.hid (HB1.out.trans (hb.mono HB1.out.size)); have HX2 := Lib.hid (HX1.out.below hb)
        clear hb c0 c1
        have c0 := HX2.out.c0; have c1 := HX2.out.c1
        go_wp2_with fail
        refine (CC1.out _ HB2.out).mono ?_
        rintro e w3 ⟨rfl, hb⟩
        have HB3 := Lib.hid (HB2.out.trans (hb.mono HB2.out.size)); have HX3 := Lib.hid (HX2.out.below hb)
        clear hb c0 c1
        have c0 := HX3.out.c0; have c1 := HX3.out.c1
        go_wp2_with fail
        refine (CA.out _ HB3.out).mono ?_
        rintro e w4 ⟨rfl, hb⟩
        have HB4 := Lib.hid (HB3.out.trans (hb.mono HB3.out.size)); have HX4 := Lib.hid (HX3.out.below hb)
        clear hb c0 c1
        go_wp2_with fail
        go_ret
        exact ⟨rfl, HB4.out⟩
    · have cS := CS.out (k : Int) (by omega); rw [hS] at cS; have CS1 := Lib.hid cS; have cC := CC.out 0 (m : Int); rw [hC] at cC; have CC1 := Lib.hid cC
      have cG := CG.out (i : Int); rw [hG] at cG; have CG1 := Lib.hid cG; have cD := CC.out 0 (i : Int); rw [hD] at cD; have CD1 := Lib.hid cD
      have c0' : (0 : Int) ≤ c := by omega
      have c1' : (c : Int) ≤ m := by omega
      have d0' : (0 : Int) ≤ d := by omega
      have d1' : (d : Int) ≤ i := by omega
      have i0' : (0 : Int) ≤ i := by omega
      have i1' : (i : Int) < m := by omega
      clear cS cC hS hC cG hG cD hD
      rcases hsf with ⟨hk0, hL, hN⟩ | ⟨j, hk1, hji, hP, hL, hN⟩
      · have cL := CL.out (i : Int); rw [hL] at cL; have CL1 := Lib.hid cL; have cN := CN.out 0; rw [hN] at cN; have CN1 := Lib.hid cN
        clear cL cN hL hN
        have kz : ((k : Int) == 0) = true := by rw [beq_iff_eq]; omega
        clear hk0
        cases on
        all_goals
          simp only [cntv, if_true, Bool.false_eq_true, if_false] at hck hdk
          first
            | have hyes : (k : Int) < (m : Int) - (c : Int) := by omega
            | have hyes : (k : Int) < (c : Int) := by omega
          first
            | have hdd : (((i : Int) - (d : Int)) != (k : Int)) = false := by rw [bne_eq_false_iff_eq]; omega
            | have hdd : ((d : Int) != (k : Int)) = false := by rw [bne_eq_false_iff_eq]; omega
          clear hck hdk
          go_enter Tryd.func8, Tryd.ntmps8
          go_wp2_with fail
          refine (CK.out _ ((Below.refl _ _).alloc (Nat.le_refl _) _)).mono ?_
          rintro e w1 ⟨rfl, hb⟩
          have HB1 := Lib.hid (boxB hb); have HX1 := Lib.hid ((box0 w m (.slice p ws.length cap)).below hb)
          clear hb
          have c0 := HX1.out.c0; have c1 := HX1.out.c1
          go_wp2_with fail
          refine (CS1.out _ HB1.out).mono ?_
          rintro e w2 ⟨rfl, hb⟩
          have HB2 := Lib.hid (HB1.out.trans (hb.mono HB1.out.size)); have HX2 := Lib.hid (HX1.out.below hb)
          clear hb c0 c1
          have c0 := HX2.out.c0; have c1 := HX2.out.c1
          go_wp2_with fail
          refine (CC1.out _ HB2.out).mono ?_
          rintro e w3 ⟨rfl, hb⟩
          have HB3 := Lib.hid (HB2.out.trans (hb.mono HB2.out.size)); have HX3 := Lib.hid (HX2.out.below hb)
          clear hb c0 c1
          have c0 := HX3.out.c0; have c1 := HX3.out.c1
          go_wp2_with fail
          refine (CG1.out _ HB3.out).mono ?_
          rintro e w4 ⟨rfl, hb⟩
          have HB4 := Lib.hid (HB3.out.trans (hb.mono HB3.out.size)); have HX4 := Lib.hid (HX3.out.below hb)
          clear hb c0 c1
          have c0 := HX4.out.c0; have c1 := HX4.out.c1
          go_wp2_with fail
          refine (CD1.out _ HB4.out).mono ?_
          rintro e w5 ⟨rfl, hb⟩
          have HB5 := Lib.hid (HB4.out.trans (hb.mono HB4.out.size)); have HX5 := Lib.hid (HX4.out.below hb)
          clear hb c0 c1
          have c0 := HX5.out.c0; have c1 := HX5.out.c1
          go_wp2_with fail
          refine (CL1.out _ HB5.out).mono ?_
          rintro e w6 ⟨rfl, hb⟩
          have HB6 := Lib.hid (HB5.out.trans (hb.mono HB5.out.size)); have HX6 := Lib.hid (HX5.out.below hb)
          clear hb c0 c1
          have c0 := HX6.out.c0; have c1 := HX6.out.c1
          go_wp2_with fail
          refine (CN1.out _ HB6.out).mono ?_
          rintro e w7 ⟨rfl, hb⟩
          have HB7 := Lib.hid (HB6.out.trans (hb.mono HB6.out.size)); have HX7 := Lib.hid (HX6.out.below hb)
          clear hb c0 c1
          have c0 := HX7.out.c0; have c1 := HX7.out.c1
          go_wp2_with fail
          refine (CA.out _ HB7.out).mono ?_
          rintro e w8 ⟨rfl, hb⟩
          have HB8 := Lib.hid (HB7.out.trans (hb.mono HB7.out.size)); have HX8 := Lib.hid (HX7.out.below hb)
          clear hb c0 c1
          go_wp2_with fail
          go_ret
          exact ⟨rfl, HB8.out⟩
      · have cL := CL.out (i : Int); rw [hL] at cL; have CL1 := Lib.hid cL; have cN := CN.out ((j : Int) + 1); rw [hN] at cN; have CN1 := Lib.hid cN
        have cP := CS.out ((k : Int) - 1) (by omega); rw [hP] at cP; have CP1 := Lib.hid cP
        clear cL cN hL hN cP hP
        have k1' : (1 : Int) ≤ k := by omega
        have kz : ((k : Int) == 0) = false := beq_eq_false_iff_ne.2 (by omega)
        have j0' : (0 : Int) ≤ j := by omega
        have j1' : (j : Int) < i := by omega
        clear hk1
        cases on
        all_goals
          simp only [cntv, if_true, Bool.false_eq_true, if_false] at hck hdk
          first
            | have hyes : (k : Int) < (m : Int) - (c : Int) := by omega
            | have hyes : (k : Int) < (c : Int) := by omega
          first
            | have hdd : (((i : Int) - (d : Int)) != (k : Int)) = false := by rw [bne_eq_false_iff_eq]; omega
            | have hdd : ((d : Int) != (k : Int)) = false := by rw [bne_eq_false_iff_eq]; omega
          clear hck hdk
          go_enter Tryd.func8, Tryd.ntmps8
          go_wp2_with fail
          refine (CK.out _ ((Below.refl _ _).alloc (Nat.le_refl _) _)).mono ?_
          rintro e w1 ⟨rfl, hb⟩
          have HB1 := Lib.hid (boxB hb); have HX1 := Lib.hid ((box0 w m (.slice p ws.length cap)).below hb)
          clear hb
          have c0 := HX1.out.c0; have c1 := HX1.out.c1
          go_wp2_with fail
          refine (CS1.out _ HB1.out).mono ?_
          rintro e w2 ⟨rfl, hb⟩
          have HB2 := Lib.hid (HB1.out.trans (hb.mono HB1.out.size)); have HX2 := Lib.hid (HX1.out.below hb)
          clear hb c0 c1
          have c0 := HX2.out.c0; have c1 := HX2.out.c1
          go_wp2_with fail
          refine (CC1.out _ HB2.out).mono ?_
          rintro e w3 ⟨rfl, hb⟩
          have HB3 := Lib.hid (HB2.out.trans (hb.mono HB2.out.size)); have HX3 := Lib.hid (HX2.out.below hb)
          clear hb c0 c1
          have c0 := HX3.out.c0; have c1 := HX3.out.c1
          go_wp2_with fail
          refine (CG1.out _ HB3.out).mono ?_
          rintro e w4 ⟨rfl, hb⟩
          have HB4 := Lib.hid (HB3.out.trans (hb.mono HB3.out.size)); have HX4 := Lib.hid (HX3.out.below hb)
          clear hb c0 c1
          have c0 := HX4.out.c0; have c1 := HX4.out.c1
          go_wp2_with fail
          refine (CD1.out _ HB4.out).mono ?_
          rintro e w5 ⟨rfl, hb⟩
          have HB5 := Lib.hid (HB4.out.trans (hb.mono HB4.out.size)); have HX5 := Lib.hid (HX4.out.below hb)
          clear hb c0 c1
          have c0 := HX5.out.c0; have c1 := HX5.out.c1
          go_wp2_with fail
          refine (CL1.out _ HB5.out).mono ?_
          rintro e w6 ⟨rfl, hb⟩
          have HB6 := Lib.hid (HB5.out.trans (hb.mono HB5.out.size)); have HX6 := Lib.hid (HX5.out.below hb)
          clear hb c0 c1
          have c0 := HX6.out.c0; have c1 := HX6.out.c1
          go_wp2_with fail
          refine (CP1.out _ HB6.out).mono ?_
          rintro e w7 ⟨rfl, hb⟩
          have HB7 := Lib.hid (HB6.out.trans (hb.mono HB6.out.size)); have HX7 := Lib.hid (HX6.out.below hb)
          clear hb c0 c1
          have c0 := HX7.out.c0; have c1 := HX7.out.c1
          go_wp2_with fail
          refine (CN1.out _ HB7.out).mono ?_
          rintro e w8 ⟨rfl, hb⟩
          have HB8 := Lib.hid (HB7.out.trans (hb.mono HB7.out.size)); have HX8 := Lib.hid (HX7.out.below hb)
          clear hb c0 c1
          have c0 := HX8.out.c0; have c1 := HX8.out.c1
          go_wp2_with fail
          refine (CA.out _ HB8.out).mono ?_
          rintro e w9 ⟨rfl, hb⟩
          have HB9 := Lib.hid (HB8.out.trans (hb.mono HB8.out.size)); have HX9 := Lib.hid (HX8.out.below hb)
          clear hb c0 c1
          go_wp2_with fail
          go_ret
          exact ⟨rfl, HB9.out⟩
end Go.Proofs.YtocgdibadcmnfaaDoor
