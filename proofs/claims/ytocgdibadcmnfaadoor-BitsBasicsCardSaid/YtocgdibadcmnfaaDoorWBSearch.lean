/- BitsSearch: the walk. -/
import Derived.Test.YtocgdibadcmnfaaDoorBtRunMath
import Derived.Test.YtocgdibadcmnfaaDoorBtRCheck
namespace Go.Proofs.YtocgdibadcmnfaaDoor
open Go.RowKit Go.Shelf

theorem fit_zero {f : Nat → Bool} {m s : Nat} (hs : 1 ≤ s) : fitL (s : Int) (runsL f false m 0) = findR (freeP f m s) m := by
  rw [fit_find (Nat.zero_le m) hs]
  exact findR_congr fun i _ => by simp
theorem free_count {f : Nat → Bool} {m s a : Nat} (h : freeP f m s a = true) : cnt f (a + s) - cnt f a = 0 := by
  obtain ⟨_, h2⟩ := (freeP_iff f m s a).1 h
  rw [cnt_add, cnt_zero (fun i hi => h2 (a + i) (by omega) (by omega))]; omega
theorem not_free {f : Nat → Bool} {m s x : Nat} (hx : x + s ≤ m) (h : freeP f m s x = false) : ∃ y : Nat, y < m ∧ y < x + s ∧ findR (fromB f true x) m = ((y : Int), 0) := by
  have hn : ¬ ∀ j, x ≤ j → j < x + s → f j = false := fun hh => by
    rw [(freeP_iff f m s x).2 ⟨hx, hh⟩] at h; cases h
  simp only [Classical.not_forall] at hn
  obtain ⟨j, h1, h2, h3⟩ := hn
  have h3' : f j = true := by cases hf : f j <;> simp_all
  rcases findR_cases (fromB f true x) m with ⟨y, hy, _, hm, e⟩ | ⟨hm, e⟩
  · refine ⟨y, hy, ?_, e⟩
    apply Classical.byContradiction
    intro hge
    have := hm j (by omega)
    unfold fromB onB at this
    rw [h3'] at this; simp at this; omega
  · have := hm j (by omega)
    unfold fromB onB at this
    rw [h3'] at this; simp at this; omega
/-- What is known where the bits are valid. -/
theorem search_fit {m : Nat} {ws : List Nat} (hv : Valid m ws) (s : Nat) :
    ((fitR m ws (1 + (s : Int)) 0 = (0, 4) ∧ bestR m ws (1 + (s : Int)) = (0, 4)) ∨
     ∃ a c : Nat, fitR m ws (1 + (s : Int)) 0 = ((a : Int), 0) ∧ bestR m ws (1 + (s : Int)) = ((c : Int), 0) ∧ a ≤ c ∧ c + (1 + s) ≤ m ∧ countR m ws (a : Int) ((a : Int) + (1 + (s : Int))) = (0, 0) ∧ countR m ws (c : Int) ((c : Int) + (1 + (s : Int))) = (0, 0) ∧
       ∀ x : Nat, x < a → ∃ y : Nat, y < m ∧ y < x + (1 + s) ∧ nextR m ws (x : Int) true = ((y : Int), 0)) := by
  have hc := checkR_of hv
  have hcount : ∀ a : Nat, freeP (bitN ws) m (1 + s) a = true → countR m ws (a : Int) ((a : Int) + (1 + (s : Int))) = (0, 0) := by
    intro a ha
    obtain ⟨h1, _⟩ := (freeP_iff _ _ _ _).1 ha
    have hr : runR m ws (a : Int) ((a : Int) + (1 + (s : Int))) = 0 := by unfold runR; rw [hc]; simp; omega
    unfold countR
    rw [hr, if_neg (by simp), show ((a : Int) + (1 + (s : Int))).toNat = a + (1 + s) by omega, Int.toNat_natCast, free_count ha]; rfl
  have hf : fitR m ws (1 + (s : Int)) 0 = findR (freeP (bitN ws) m (1 + s)) m := by
    unfold fitR
    rw [hc, if_neg (by simp), if_neg (by omega), if_neg (by omega), Int.toNat_natCast, show (1 + (s : Int)) = ((1 + s : Nat) : Int) by omega]
    exact fit_zero (by omega)
  have hb : bestR m ws (1 + (s : Int)) = bestL ((1 + s : Nat) : Int) m (runsL (bitN ws) false m 0) := by
    have he : bestE m ws (1 + (s : Int)) = 0 := by unfold bestE; rw [hc, if_neg (by simp), if_neg (by omega)]
    unfold bestR
    rw [he, if_neg (by simp), Int.toNat_natCast, show (1 + (s : Int)) = ((1 + s : Nat) : Int) by omega]
  rw [hf, hb]
  rcases findR_cases (freeP (bitN ws) m (1 + s)) m with ⟨a, ha, hp, hm, e⟩ | ⟨hn, e⟩
  · right
    rcases best_find (f := bitN ws) (m := m) (s := 1 + s) (by omega) with ⟨h1, _⟩ | ⟨c, hcm, hcf, ec⟩
    · rw [h1 a ha] at hp; cases hp
    · have hac : a ≤ c := by
        apply Classical.byContradiction
        intro hlt
        rw [hm c (by omega)] at hcf; cases hcf
      have h5 := ((freeP_iff _ _ _ _).1 hcf).1
      refine ⟨a, c, e, ec, hac, h5, hcount a hp, hcount c hcf, fun x hx => ?_⟩
      obtain ⟨y, h1, h2, h3⟩ := not_free (f := bitN ws) (m := m) (s := 1 + s) (x := x) (by omega) (hm x hx)
      refine ⟨y, h1, h2, ?_⟩
      have hr : runR m ws (x : Int) m = 0 := by unfold runR; rw [hc]; simp; omega
      unfold nextR
      rw [hr, if_neg (by simp), Int.toNat_natCast, Int.toNat_natCast]; exact h3
  · left
    refine ⟨e, ?_⟩
    rcases best_find (f := bitN ws) (m := m) (s := 1 + s) (by omega) with ⟨_, h1⟩ | ⟨c, hcm, hcf, _⟩
    · exact h1
    · rw [hn c hcm] at hcf; cases hcf
theorem search_block {m : Nat} {ws : List Nat} (hv : Valid m ws) (k : Nat) (hk : k < 13) :
    blockR m ws k = (0, 4) ∨ ∃ a b : Nat, blockR m ws k = ((a : Int), 0) ∧ a + 2 ^ k ≤ m ∧ b ≤ a ∧ a % 2 ^ k = 0 ∧ countR m ws (a : Int) ((a : Int) + ((2 ^ k : Nat) : Int)) = (0, 0) ∧ fitR m ws ((2 ^ k : Nat) : Int) 0 = ((b : Int), 0) := by
  have hc := checkR_of hv
  have hp := Nat.two_pow_pos k
  have hbk : blockR m ws k = findR (blockP (bitN ws) (2 ^ k) m) m := by
    have he : blockE m ws k = 0 := by unfold blockE; rw [hc, if_neg (by simp), if_neg (by omega)]
    unfold blockR
    rw [he, if_neg (by simp), Int.toNat_natCast, Int.toNat_natCast]
  have hf : fitR m ws ((2 ^ k : Nat) : Int) 0 = findR (freeP (bitN ws) m (2 ^ k)) m := by
    unfold fitR
    rw [hc, if_neg (by simp), if_neg (by omega), if_neg (by omega), Int.toNat_natCast]
    exact fit_zero hp
  rw [hbk, hf]
  rcases findR_cases (blockP (bitN ws) (2 ^ k) m) m with ⟨a, ha, hpa, hm, e⟩ | ⟨hn, e⟩
  · right
    unfold blockP at hpa
    simp only [Bool.and_eq_true, beq_iff_eq, decide_eq_true_eq] at hpa
    have hfree : freeP (bitN ws) m (2 ^ k) a = true := by unfold freeP; simp [hpa]
    rcases findR_cases (freeP (bitN ws) m (2 ^ k)) m with ⟨b, hb, hpb, hmb, eb⟩ | ⟨hnb, _⟩
    · refine ⟨a, b, e, hpa.2.1, ?_, hpa.1, ?_, eb⟩
      · apply Classical.byContradiction
        intro hlt
        rw [hmb a (by omega)] at hfree; cases hfree
      · have hr : runR m ws (a : Int) ((a : Int) + ((2 ^ k : Nat) : Int)) = 0 := by
          have := hpa.2.1
          unfold runR; rw [hc]; simp only [ne_eq, not_true, if_false]; rw [if_neg (by omega)]
        unfold countR
        rw [hr, if_neg (by simp), show ((a : Int) + ((2 ^ k : Nat) : Int)).toNat = a + 2 ^ k by omega, Int.toNat_natCast, free_count hfree]; rfl
    · rw [hnb a ha] at hfree; cases hfree
  · exact .inl e

theorem size_facts (K : Nat) (h : K < 13) : ∃ S : Nat, S = 2 ^ K ∧ 1 ≤ S ∧ S ≤ 4096 ∧ (2 : Int) ^ K = (S : Int) ∧ wrap64 (S : Int) = (S : Int) := by
  obtain ⟨_, _, s3, s4⟩ := size_val K h
  refine ⟨2 ^ K, rfl, s3, s4, by simp, ?_⟩
  generalize 2 ^ K = S at s3 s4
  exact IntWalk.wrap64_in _ (by omega)
/-- The box of the argument, in any later world. -/
theorem box0 (w : World) (n : Int) (s : Value) : BoxAt (w.alloc (.cells #[.int .i64 n, s] 24)) w.heap.size n s := BoxAt.new w n s _

set_option maxHeartbeats 4000000 in
set_option maxRecDepth 100000 in
theorem search_walk (n : Int) (p : Option Addr) (cap : Nat) (ws : List Nat) (s o : Nat) (w : World) (h : WordsAt w p ws) (he : BEnv w) (hs : s ≤ 65535) (ho : o ≤ 255) :
    Calls Tryd.prog 11 #[.agg #[.int .i64 n, .slice p ws.length cap], .int .u16 (s : Int), .int .u8 (o : Int)] w (TruePost w) := by
  have ck := fun W (hW : Below w.heap.size w W) => rcheck_any n p cap ws W (h.below hW)
  have ca := fun W (hW : Below w.heap.size w W) => awake_any W (he.below hW)
  unfold TruePost at ca
  have hok := checkR_ok (n := n) h.lt
  have HW := Lib.hid h; have HE := Lib.hid he
  have CA := Lib.hid ca
  generalize checkR n ws = c at ck hok
  have CK := Lib.hid ck
  have s0 : (0 : Int) ≤ s := by omega
  have s6 : (s : Int) ≤ 65535 := by omega
  have o0 : (0 : Int) ≤ o := by omega
  have o2 : (o : Int) ≤ 255 := by omega
  clear ck ca h he
  by_cases hc : c ≠ 0
  · obtain ⟨t1, t2⟩ := neq0 hc
    clear hc hok
    go_enter Tryd.func11, Tryd.ntmps11
    go_wp2_with (first
      | (go_at_call 20; refine (CK.out _ ((Below.refl _ _).alloc (Nat.le_refl _) _)).mono ?_; rintro e w1 ⟨rfl, hb⟩; have HB := Lib.hid (boxB hb); clear hb)
      | (go_at_call 14; refine (CA.out _ HB.out).mono ?_; rintro e w2 ⟨rfl, hb⟩; have HB2 := Lib.hid (HB.out.trans (hb.mono HB.out.size)); clear hb))
    go_ret
    exact ⟨rfl, HB2.out⟩
  · obtain rfl : c = 0 := Classical.not_not.1 hc
    obtain ⟨hn0, hv⟩ := hok rfl
    obtain ⟨m, rfl⟩ : ∃ m : Nat, n = (m : Int) := ⟨n.toNat, by omega⟩
    rw [Int.toNat_natCast] at hv
    have hm := hv.le
    have m4 : (m : Int) ≤ 4096 := by omega
    obtain ⟨K, hK⟩ : ∃ K : Nat, o % 13 = K := ⟨_, rfl⟩
    have hK13 : K < 13 := by omega
    have hsf := search_fit hv s
    have hsb := search_block hv K hK13
    have eK : (o : Int) % 13 = (K : Int) := by omega
    obtain ⟨S, hS, s3, s4, e2, e3⟩ := size_facts K hK13
    rw [← hS] at hsb
    clear hS
    have S1 : (1 : Int) ≤ S := by omega
    have S4 : (S : Int) ≤ 4096 := by omega
    have K0 : (0 : Int) ≤ K := by omega
    have K12 : (K : Int) ≤ 12 := by omega
    have cF := fun W (hW : Below w.heap.size w W) => fit_any m p cap ws (1 + (s : Int)) 0 W (HW.out.below hW) (HE.out.below hW)
    have cB := fun W (hW : Below w.heap.size w W) => best_any m p cap ws (1 + (s : Int)) W (HW.out.below hW) (HE.out.below hW)
    have cL := fun W (hW : Below w.heap.size w W) => block_any m p cap ws (K : Int) W (HW.out.below hW)
    have cC := fun (i j : Int) W (hW : Below w.heap.size w W) => count_any m p cap ws i j W (HW.out.below hW)
    have cN := fun (i : Int) W (hW : Below w.heap.size w W) => Next_any m p cap ws i true W (HW.out.below hW) (HE.out.below hW)
    have cG := fun W (hW : Below w.heap.size w W) => fit_any m p cap ws (S : Int) 0 W (HW.out.below hW) (HE.out.below hW)
    unfold IntErr at cF cB cL cC cN cG
    have CC := Lib.hid cC; have CN := Lib.hid cN
    have EK := Lib.hid eK; have E2 := Lib.hid e2; have E3 := Lib.hid e3
    have hkk : (K : Int) < 13 := by omega
    clear hc hok hv hn0 cC cN hK hK13 s3 s4 eK e2 e3 hkk
    rcases hsf with ⟨hF, hB⟩ | ⟨a, c, hF, hB, hac, hcm, hca, hcc, hnx⟩
    · rw [hF] at cF
      rw [hB] at cB
      have CF := Lib.hid cF; have CB := Lib.hid cB
      clear cF cB hF hB
      go_enter Tryd.func11, Tryd.ntmps11
      have eK := EK.out; have e2 := E2.out; have e3 := E3.out
      go_wp2_with fail
      refine (CK.out _ ((Below.refl _ _).alloc (Nat.le_refl _) _)).mono ?_
      rintro e w1 ⟨rfl, hb⟩
      have HB1 := Lib.hid (boxB hb); have HX1 := Lib.hid ((box0 w m (.slice p ws.length cap)).below hb)
      clear hb CK
      have c0 := HX1.out.c0; have c1 := HX1.out.c1
      clear c0 c1
      have c0 := HX1.out.c0; have c1 := HX1.out.c1
      go_wp2_with fail
      refine (CF.out _ HB1.out).mono ?_
      rintro e w2 ⟨rfl, hb⟩
      have HB2 := Lib.hid (HB1.out.trans (hb.mono HB1.out.size)); have HX2 := Lib.hid (HX1.out.below hb)
      clear hb c0 c1
      have c0 := HX2.out.c0; have c1 := HX2.out.c1
      clear c0 c1
      have c0 := HX2.out.c0; have c1 := HX2.out.c1
      go_wp2_with fail
      refine (CB.out _ HB2.out).mono ?_
      rintro e w3 ⟨rfl, hb⟩
      have HB3 := Lib.hid (HB2.out.trans (hb.mono HB2.out.size)); have HX3 := Lib.hid (HX2.out.below hb)
      clear hb c0 c1
      have c0 := HX3.out.c0; have c1 := HX3.out.c1
      rcases hsb with hL | ⟨at_, fi, hL, hLm, hle, hmod, hcl, hfi⟩
      · rw [hL] at cL
        have CL := Lib.hid cL
        clear cL hL
        clear c0 c1
        have c0 := HX3.out.c0; have c1 := HX3.out.c1
        go_wp2_with fail
        refine (CL.out _ HB3.out).mono ?_
        rintro e w30 ⟨rfl, hb⟩
        have HB30 := Lib.hid (HB3.out.trans (hb.mono HB3.out.size)); have HX30 := Lib.hid (HX3.out.below hb)
        clear hb c0 c1
        have c0 := HX30.out.c0; have c1 := HX30.out.c1
        clear c0 c1
        go_wp2_with fail
        refine (CA.out _ HB30.out).mono ?_
        rintro e w31 ⟨rfl, hb⟩
        have HB31 := Lib.hid (HB30.out.trans (hb.mono HB30.out.size))
        clear hb
        go_wp2_with fail
        go_ret
        exact ⟨rfl, HB31.out⟩
      · rw [hL] at cL
        rw [hfi] at cG
        have cL2 := CC.out (at_ : Int) ((at_ : Int) + (S : Int))
        rw [hcl] at cL2
        have CL := Lib.hid cL; have CG := Lib.hid cG; have CL2 := Lib.hid cL2
        have a0 : (0 : Int) ≤ at_ := by omega
        have a4 : (at_ : Int) + S ≤ 4096 := by omega
        have hle2 : (fi : Int) ≤ at_ := by omega
        have hm1 : ((at_ : Int) % (S : Int) == 0) = true := by rw [beq_iff_eq]; omega
        have hm2 : ((at_ : Int).tmod (S : Int) == 0) = true := by rw [Int.tmod_eq_emod_of_nonneg a0]; exact hm1
        clear cL cG cL2 hL hcl hfi hmod
        clear c0 c1
        have c0 := HX3.out.c0; have c1 := HX3.out.c1
        go_wp2_with fail
        refine (CL.out _ HB3.out).mono ?_
        rintro e w30 ⟨rfl, hb⟩
        have HB30 := Lib.hid (HB3.out.trans (hb.mono HB3.out.size)); have HX30 := Lib.hid (HX3.out.below hb)
        clear hb c0 c1
        have c0 := HX30.out.c0; have c1 := HX30.out.c1
        clear c0 c1
        have c0 := HX30.out.c0; have c1 := HX30.out.c1
        go_wp2_with fail
        refine (CL2.out _ HB30.out).mono ?_
        rintro e w31 ⟨rfl, hb⟩
        have HB31 := Lib.hid (HB30.out.trans (hb.mono HB30.out.size)); have HX31 := Lib.hid (HX30.out.below hb)
        clear hb c0 c1
        have c0 := HX31.out.c0; have c1 := HX31.out.c1
        clear c0 c1
        have c0 := HX31.out.c0; have c1 := HX31.out.c1
        go_wp2_with fail
        refine (CG.out _ HB31.out).mono ?_
        rintro e w32 ⟨rfl, hb⟩
        have HB32 := Lib.hid (HB31.out.trans (hb.mono HB31.out.size)); have HX32 := Lib.hid (HX31.out.below hb)
        clear hb c0 c1
        have c0 := HX32.out.c0; have c1 := HX32.out.c1
        clear c0 c1
        go_wp2_with fail
        refine (CA.out _ HB32.out).mono ?_
        rintro e w33 ⟨rfl, hb⟩
        have HB33 := Lib.hid (HB32.out.trans (hb.mono HB32.out.size))
        clear hb
        go_wp2_with fail
        go_ret
        exact ⟨rfl, HB33.out⟩
    · rw [hF] at cF
      rw [hB] at cB
      have cca := CC.out (a : Int) ((a : Int) + (1 + (s : Int)))
      have ccc := CC.out (c : Int) ((c : Int) + (1 + (s : Int)))
      rw [hca] at cca
      rw [hcc] at ccc
      have CF := Lib.hid cF; have CB := Lib.hid cB; have CCA := Lib.hid cca; have CCC := Lib.hid ccc; have HNX := Lib.hid hnx
      have a0 : (0 : Int) ≤ a := by omega
      have a4 : (a : Int) ≤ 4096 := by omega
      have d0 : (0 : Int) ≤ c := by omega
      have d4 : (c : Int) ≤ 4096 := by omega
      have hac2 : decide (c < a) = false := by simp; omega
      have hac3 : ¬ (c : Int) < a := by omega
      clear cF cB cca ccc hF hB hca hcc hnx
      go_enter Tryd.func11, Tryd.ntmps11
      have eK := EK.out; have e2 := E2.out; have e3 := E3.out
      go_wp2_with fail
      refine (CK.out _ ((Below.refl _ _).alloc (Nat.le_refl _) _)).mono ?_
      rintro e w1 ⟨rfl, hb⟩
      have HB1 := Lib.hid (boxB hb); have HX1 := Lib.hid ((box0 w m (.slice p ws.length cap)).below hb)
      clear hb CK
      have c0 := HX1.out.c0; have c1 := HX1.out.c1
      clear c0 c1
      have c0 := HX1.out.c0; have c1 := HX1.out.c1
      go_wp2_with fail
      refine (CF.out _ HB1.out).mono ?_
      rintro e w2 ⟨rfl, hb⟩
      have HB2 := Lib.hid (HB1.out.trans (hb.mono HB1.out.size)); have HX2 := Lib.hid (HX1.out.below hb)
      clear hb c0 c1
      have c0 := HX2.out.c0; have c1 := HX2.out.c1
      clear c0 c1
      have c0 := HX2.out.c0; have c1 := HX2.out.c1
      go_wp2_with fail
      refine (CB.out _ HB2.out).mono ?_
      rintro e w3 ⟨rfl, hb⟩
      have HB3 := Lib.hid (HB2.out.trans (hb.mono HB2.out.size)); have HX3 := Lib.hid (HX2.out.below hb)
      clear hb c0 c1
      have c0 := HX3.out.c0; have c1 := HX3.out.c1
      clear c0 c1
      have c0 := HX3.out.c0; have c1 := HX3.out.c1
      go_wp2_with fail
      refine (CCA.out _ HB3.out).mono ?_
      rintro e w4 ⟨rfl, hb⟩
      have HB4 := Lib.hid (HB3.out.trans (hb.mono HB3.out.size)); have HX4 := Lib.hid (HX3.out.below hb)
      clear hb c0 c1
      have c0 := HX4.out.c0; have c1 := HX4.out.c1
      clear c0 c1
      have c0 := HX4.out.c0; have c1 := HX4.out.c1
      go_wp2_with fail
      refine (CCC.out _ HB4.out).mono ?_
      rintro e w5 ⟨rfl, hb⟩
      have HB5 := Lib.hid (HB4.out.trans (hb.mono HB4.out.size)); have HX5 := Lib.hid (HX4.out.below hb)
      clear hb c0 c1
      have c0 := HX5.out.c0; have c1 := HX5.out.c1
      clear c0 c1
      go_wp2_with fail
      go_loopg [17] a (fun n i wr => ∃ x : Nat, x + n = a ∧ i = .int .i64 x ∧ Below w.heap.size w wr ∧ BoxAt wr w.heap.size m (.slice p ws.length cap))
      case atStart => exact ⟨0, by omega, by go_num, HB5.out, HX5.out⟩
      case round =>
        clear HB5 HX5
        obtain ⟨x, hxn, rfl, hbw, hbx⟩ := hrel
        have HB6 := Lib.hid hbw; have HX6 := Lib.hid hbx
        have c0 := HX6.out.c0; have c1 := HX6.out.c1
        clear hbw hbx
        by_cases hlt : x < a
        · obtain ⟨n', rfl⟩ : ∃ n', gk = n' + 1 := ⟨gk - 1, by omega⟩
          obtain ⟨y, hy1, hy2, hy3⟩ := HNX.out x hlt
          have cN := CN.out (x : Int)
          rw [hy3] at cN
          have CN1 := Lib.hid cN
          have x0 : (0 : Int) ≤ x := by omega
          have xl : (x : Int) < a := by omega
          have yl : (y : Int) < (x : Int) + (1 + (s : Int)) := by omega
          clear cN hy3
          clear c0 c1
          have c0 := HX6.out.c0; have c1 := HX6.out.c1
          go_wp2_with fail
          refine (CN1.out _ HB6.out).mono ?_
          rintro e w7 ⟨rfl, hb⟩
          have HB7 := Lib.hid (HB6.out.trans (hb.mono HB6.out.size)); have HX7 := Lib.hid (HX6.out.below hb)
          clear hb c0 c1
          have c0 := HX7.out.c0; have c1 := HX7.out.c1
          clear c0 c1
          go_wp2_with fail
          go_roundg n'
          case measure => omega
          case rel => exact ⟨x + 1, by omega, by go_num, HB7.out, HX7.out⟩
        · obtain rfl : x = a := by omega
          rcases hsb with hL | ⟨at_, fi, hL, hLm, hle, hmod, hcl, hfi⟩
          · rw [hL] at cL
            have CL := Lib.hid cL
            clear cL hL
            clear c0 c1
            have c0 := HX6.out.c0; have c1 := HX6.out.c1
            go_wp2_with fail
            refine (CL.out _ HB6.out).mono ?_
            rintro e w30 ⟨rfl, hb⟩
            have HB30 := Lib.hid (HB6.out.trans (hb.mono HB6.out.size)); have HX30 := Lib.hid (HX6.out.below hb)
            clear hb c0 c1
            have c0 := HX30.out.c0; have c1 := HX30.out.c1
            clear c0 c1
            go_wp2_with fail
            refine (CA.out _ HB30.out).mono ?_
            rintro e w31 ⟨rfl, hb⟩
            have HB31 := Lib.hid (HB30.out.trans (hb.mono HB30.out.size))
            clear hb
            go_wp2_with fail
            go_ret
            exact ⟨rfl, HB31.out⟩
          · rw [hL] at cL
            rw [hfi] at cG
            have cL2 := CC.out (at_ : Int) ((at_ : Int) + (S : Int))
            rw [hcl] at cL2
            have CL := Lib.hid cL; have CG := Lib.hid cG; have CL2 := Lib.hid cL2
            have a0 : (0 : Int) ≤ at_ := by omega
            have a4 : (at_ : Int) + S ≤ 4096 := by omega
            have hle2 : (fi : Int) ≤ at_ := by omega
            have hm1 : ((at_ : Int) % (S : Int) == 0) = true := by rw [beq_iff_eq]; omega
            have hm2 : ((at_ : Int).tmod (S : Int) == 0) = true := by rw [Int.tmod_eq_emod_of_nonneg a0]; exact hm1
            clear cL cG cL2 hL hcl hfi hmod
            clear c0 c1
            have c0 := HX6.out.c0; have c1 := HX6.out.c1
            go_wp2_with fail
            refine (CL.out _ HB6.out).mono ?_
            rintro e w30 ⟨rfl, hb⟩
            have HB30 := Lib.hid (HB6.out.trans (hb.mono HB6.out.size)); have HX30 := Lib.hid (HX6.out.below hb)
            clear hb c0 c1
            have c0 := HX30.out.c0; have c1 := HX30.out.c1
            clear c0 c1
            have c0 := HX30.out.c0; have c1 := HX30.out.c1
            go_wp2_with fail
            refine (CL2.out _ HB30.out).mono ?_
            rintro e w31 ⟨rfl, hb⟩
            have HB31 := Lib.hid (HB30.out.trans (hb.mono HB30.out.size)); have HX31 := Lib.hid (HX30.out.below hb)
            clear hb c0 c1
            have c0 := HX31.out.c0; have c1 := HX31.out.c1
            clear c0 c1
            have c0 := HX31.out.c0; have c1 := HX31.out.c1
            go_wp2_with fail
            refine (CG.out _ HB31.out).mono ?_
            rintro e w32 ⟨rfl, hb⟩
            have HB32 := Lib.hid (HB31.out.trans (hb.mono HB31.out.size)); have HX32 := Lib.hid (HX31.out.below hb)
            clear hb c0 c1
            have c0 := HX32.out.c0; have c1 := HX32.out.c1
            clear c0 c1
            go_wp2_with fail
            refine (CA.out _ HB32.out).mono ?_
            rintro e w33 ⟨rfl, hb⟩
            have HB33 := Lib.hid (HB32.out.trans (hb.mono HB32.out.size))
            clear hb
            go_wp2_with fail
            go_ret
            exact ⟨rfl, HB33.out⟩
end Go.Proofs.YtocgdibadcmnfaaDoor
