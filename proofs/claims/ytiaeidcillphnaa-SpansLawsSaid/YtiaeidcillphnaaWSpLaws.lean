/- The law SpansLaws, walked. -/
import Derived.Test.YtiaeidcillphnaaSpAwake
import Derived.Test.YtiaeidcillphnaaSpLawMath
import Derived.Test.YtiaeidcillphnaaSpRCount
namespace Go.Proofs.Ytiaeidcillphnaa
open Go.RowKit

theorem k_union {S T R : List (Nat × Nat)} (h : unionR (up S) (up T) = (R, 0)) {p q : Option Addr} {c d : Nat} {w : World} (hS : SpsAt w p (up S)) (hT : SpsAt w q (up T)) : Calls Try.prog 21 #[.slice p S.length c, .slice q T.length d] w (SpsErr (R, 0) w) := by
  have := union_any _ _ p q c d w hS hT
  rw [h, up_len, up_len] at this; exact this
theorem k_meet {S T R : List (Nat × Nat)} (h : meetR (up S) (up T) = (R, 0)) {p q : Option Addr} {c d : Nat} {w : World} (hS : SpsAt w p (up S)) (hT : SpsAt w q (up T)) : Calls Try.prog 23 #[.slice p S.length c, .slice q T.length d] w (SpsErr (R, 0) w) := by
  have := meet_any _ _ p q c d w hS hT
  rw [h, up_len, up_len] at this; exact this
theorem k_minus {S T R : List (Nat × Nat)} (h : minusR (up S) (up T) = (R, 0)) {p q : Option Addr} {c d : Nat} {w : World} (hS : SpsAt w p (up S)) (hT : SpsAt w q (up T)) : Calls Try.prog 25 #[.slice p S.length c, .slice q T.length d] w (SpsErr (R, 0) w) := by
  have := minus_any _ _ p q c d w hS hT
  rw [h, up_len, up_len] at this; exact this
theorem k_not {S R : List (Nat × Nat)} (h : notR (up S) (0, 1024) = (R, 0)) {p : Option Addr} {c : Nat} {w : World} (hS : SpsAt w p (up S)) : Calls Try.prog 27 #[.slice p S.length c, .agg #[.int .i64 0, .int .i64 1024]] w (SpsErr (R, 0) w) := by
  have := not_any _ p c 0 1024 w hS (by unfold Fits; simp)
  rw [h, up_len] at this; exact this
theorem k_check {S : List (Nat × Nat)} (h : Good S) {p : Option Addr} {c : Nat} {w : World} (hS : SpsAt w p (up S)) : Calls Try.prog 18 #[.slice p S.length c] w (ErrPost 0 w) := by
  have := check_any _ p c w hS
  rw [h.check, up_len] at this; exact this
theorem k_has {S : List (Nat × Nat)} (h : Good S) {pg : Nat} (hpg : pg < 1024) {p : Option Addr} {c : Nat} {w : World} (hS : SpsAt w p (up S)) : Calls Try.prog 29 #[.slice p S.length c, .agg #[.int .i64 (pg : Int), .int .i64 1]] w (BoolErr (inS S pg, 0) w) := by
  have := has_any _ p c (pg : Int) 1 w hS (by unfold Fits; simp; omega)
  have hv : validR ((pg : Int), (1 : Int)) = true := (validR_iff _).2 ⟨by simp, by simp, by simp; omega⟩
  have hw : withR (up S) ((pg : Int), 1) = 0 := by unfold withR; rw [h.check, hv]; rfl
  obtain ⟨a', b', ha, hb, _, _, _, _, _, hh, _⟩ := ask_eq hw
  obtain rfl : a' = pg := by omega
  obtain rfl : b' = 1 := by omega
  rw [hh, down_up, up_len] at this
  have e : decide (cntP (inS S) a' 1 = 1) = inS S a' := by
    have e1 : cntP (inS S) a' 1 = (if inS S a' = true then 1 else 0) := by
      show 0 + (if inS S (a' + 0) = true then 1 else 0) = _
      rw [Nat.zero_add, Nat.add_zero]
    rw [e1]
    cases inS S a' <;> rfl
  rw [e] at this; exact this
theorem k_same {S : List (Nat × Nat)} {p q : Option Addr} {c d : Nat} {w : World} (h : SpsAt w p (up S)) (h' : SpsAt w q (up S)) : Calls Try.prog 20 #[.slice p S.length c, .slice q S.length d] w (TruePost w) := c_same S S.length rfl p q c d w h h'
theorem Good.okay {S : List (Nat × Nat)} (h : Good S) : Okay S := fun x hx => h.set.run x hx
theorem Good.long {S : List (Nat × Nat)} (h : Good S) : S.length ≤ 100000 := Nat.le_trans h.len (by decide)
set_option maxHeartbeats 16000000 in
set_option maxRecDepth 100000 in
theorem laws_good (A B : List (Nat × Nat)) (hA : Good A) (hB : Good B) (p q : Option Addr) (c d : Nat) (n : Nat) (w : World) (h : SpsAt w p (up A)) (h' : SpsAt w q (up B)) (hn : n ≤ 65535) :
    Calls Try.prog 8 #[.slice p A.length c, .slice q B.length d, .int .u16 (n : Int)] w (TruePost w) := by
  obtain ⟨U, M, D, X, Y, Z, L⟩ := law_sets hA hB
  have la := hA.len
  have lb := hB.len
  have i1 : ¬ (600 : Int) < A.length := by omega
  have i2 : ¬ (600 : Int) < B.length := by omega
  obtain ⟨pg, hpg⟩ : ∃ pg, pg = n % 1024 := ⟨_, rfl⟩
  have hp4 : pg < 1024 := by omega
  have r1 : Int.tmod (n : Int) 1024 = (pg : Int) := by rw [hpg]; exact (Int.ofNat_tmod n 1024).symm
  have r2 : IntKind.i64.wrap (pg : Int) = (pg : Int) := IntWalk.i64_in _ (by omega)
  have r3 : IntKind.i64.wrap (n : Int) = (n : Int) := IntWalk.i64_in _ (by omega)
  have HU := L.hu pg hp4
  have HM := L.hm pg hp4
  have HD := L.hd pg hp4
  have HZ := L.hz pg hp4
  have GA := Lib.hid hA; have GB := Lib.hid hB; have LL := Lib.hid L; have CA := Lib.hid (fun W => awake_any W)
  have P4 := Lib.hid hp4
  have SA := Lib.hid h; have SB := Lib.hid h'
  clear hA hB L la lb h h' hpg hp4
  have hasA := fun (W : World) (p : Option Addr) (c : Nat) (hS : SpsAt W p (up A)) => k_has GA.out P4.out (c := c) hS
  have hasB := fun (W : World) (p : Option Addr) (c : Nat) (hS : SpsAt W p (up B)) => k_has GB.out P4.out (c := c) hS
  have hasU := fun (W : World) (p : Option Addr) (c : Nat) (hS : SpsAt W p (up U)) => k_has LL.out.gu P4.out (c := c) hS
  have hasM := fun (W : World) (p : Option Addr) (c : Nat) (hS : SpsAt W p (up M)) => k_has LL.out.gm P4.out (c := c) hS
  have hasD := fun (W : World) (p : Option Addr) (c : Nat) (hS : SpsAt W p (up D)) => k_has LL.out.gd P4.out (c := c) hS
  have hasZ := fun (W : World) (p : Option Addr) (c : Nat) (hS : SpsAt W p (up Z)) => k_has LL.out.gz P4.out (c := c) hS
  simp only [HZ, HU] at hasZ
  simp only [HU] at hasU
  simp only [HM] at hasM
  simp only [HD] at hasD
  clear HU HM HD HZ
  generalize inS A pg = ia at hasA hasU hasM hasD hasZ
  generalize inS B pg = ib at hasB hasU hasM hasD hasZ
  have KA := Lib.hid hasA; have KB := Lib.hid hasB; have KU := Lib.hid hasU; have KM := Lib.hid hasM; have KD := Lib.hid hasD; have KZ := Lib.hid hasZ
  clear hasA hasB hasU hasM hasD hasZ
  have hbe : Below w.heap.size w (w.alloc (.cells #[.int .i64 0, .int .i64 1024] 31)) := (Below.refl _ _).alloc (Nat.le_refl _) _
  have HALL := Lib.hid (show XAt (w.alloc (.cells #[.int .i64 0, .int .i64 1024] 31)) w.heap.size 0 1024 from ⟨row_cell (heap_alloc_new w _) rfl, row_cell (heap_alloc_new w _) rfl⟩)
  have HBW := Lib.hid hbe
  have SA := Lib.hid (SA.out.below hbe); have SB := Lib.hid (SB.out.below hbe)
  clear hbe
  go_enter Try.func8, Try.ntmps8
  go_wp2_with fail
  refine (k_union LL.out.u SA.out SB.out).mono ?_
  rintro e v1 ⟨v, rfl, hb, ho⟩
  obtain ⟨q1, c1, rfl, hs⟩ := own_sps (s := U) ho LL.out.gu.okay LL.out.gu.long
  have HBW := Lib.hid (below_next HBW.out hb)
  have SA := Lib.hid (SA.out.below hb)
  have SB := Lib.hid (SB.out.below hb)
  have HALL := Lib.hid (HALL.out.below hb)
  have SU := Lib.hid hs
  clear hb ho hs
  go_wp2_with fail
  refine (k_meet LL.out.m SA.out SB.out).mono ?_
  rintro e v2 ⟨v, rfl, hb, ho⟩
  obtain ⟨q2, c2, rfl, hs⟩ := own_sps (s := M) ho LL.out.gm.okay LL.out.gm.long
  have HBW := Lib.hid (below_next HBW.out hb)
  have SA := Lib.hid (SA.out.below hb)
  have SB := Lib.hid (SB.out.below hb)
  have SU := Lib.hid (SU.out.below hb)
  have HALL := Lib.hid (HALL.out.below hb)
  have SM := Lib.hid hs
  clear hb ho hs
  go_wp2_with fail
  refine (k_minus LL.out.d SA.out SB.out).mono ?_
  rintro e v3 ⟨v, rfl, hb, ho⟩
  obtain ⟨q3, c3, rfl, hs⟩ := own_sps (s := D) ho LL.out.gd.okay LL.out.gd.long
  have HBW := Lib.hid (below_next HBW.out hb)
  have SA := Lib.hid (SA.out.below hb)
  have SB := Lib.hid (SB.out.below hb)
  have SU := Lib.hid (SU.out.below hb)
  have SM := Lib.hid (SM.out.below hb)
  have HALL := Lib.hid (HALL.out.below hb)
  have SD := Lib.hid hs
  clear hb ho hs
  have q0 := HALL.out.c0
  have q1 := HALL.out.c1
  go_wp2_with fail
  refine (k_not LL.out.x SA.out).mono ?_
  rintro e v4 ⟨v, rfl, hb, ho⟩
  obtain ⟨q4, c4, rfl, hs⟩ := own_sps (s := X) ho LL.out.gx.okay LL.out.gx.long
  have HBW := Lib.hid (below_next HBW.out hb)
  have SA := Lib.hid (SA.out.below hb)
  have SB := Lib.hid (SB.out.below hb)
  have SU := Lib.hid (SU.out.below hb)
  have SM := Lib.hid (SM.out.below hb)
  have SD := Lib.hid (SD.out.below hb)
  have HALL := Lib.hid (HALL.out.below hb)
  have SX := Lib.hid hs
  clear hb ho hs
  clear q0 q1
  have q0 := HALL.out.c0
  have q1 := HALL.out.c1
  go_wp2_with fail
  refine (k_not LL.out.y SB.out).mono ?_
  rintro e v5 ⟨v, rfl, hb, ho⟩
  obtain ⟨q5, c5, rfl, hs⟩ := own_sps (s := Y) ho LL.out.gy.okay LL.out.gy.long
  have HBW := Lib.hid (below_next HBW.out hb)
  have SA := Lib.hid (SA.out.below hb)
  have SB := Lib.hid (SB.out.below hb)
  have SU := Lib.hid (SU.out.below hb)
  have SM := Lib.hid (SM.out.below hb)
  have SD := Lib.hid (SD.out.below hb)
  have SX := Lib.hid (SX.out.below hb)
  have HALL := Lib.hid (HALL.out.below hb)
  have SY := Lib.hid hs
  clear hb ho hs
  clear q0 q1
  have q0 := HALL.out.c0
  have q1 := HALL.out.c1
  go_wp2_with fail
  refine (k_not LL.out.z SU.out).mono ?_
  rintro e v6 ⟨v, rfl, hb, ho⟩
  obtain ⟨q6, c6, rfl, hs⟩ := own_sps (s := Z) ho LL.out.gz.okay LL.out.gz.long
  have HBW := Lib.hid (below_next HBW.out hb)
  have SA := Lib.hid (SA.out.below hb)
  have SB := Lib.hid (SB.out.below hb)
  have SU := Lib.hid (SU.out.below hb)
  have SM := Lib.hid (SM.out.below hb)
  have SD := Lib.hid (SD.out.below hb)
  have SX := Lib.hid (SX.out.below hb)
  have SY := Lib.hid (SY.out.below hb)
  have HALL := Lib.hid (HALL.out.below hb)
  have SZ := Lib.hid hs
  clear hb ho hs
  clear q0 q1
  clear HALL
  go_wp2_with fail
  refine (k_check LL.out.gu SU.out).mono ?_
  rintro e v7 ⟨rfl, hb⟩
  have HBW := Lib.hid (below_next HBW.out hb)
  have SA := Lib.hid (SA.out.below hb)
  have SB := Lib.hid (SB.out.below hb)
  have SU := Lib.hid (SU.out.below hb)
  have SM := Lib.hid (SM.out.below hb)
  have SD := Lib.hid (SD.out.below hb)
  have SX := Lib.hid (SX.out.below hb)
  have SY := Lib.hid (SY.out.below hb)
  have SZ := Lib.hid (SZ.out.below hb)
  clear hb
  go_wp2_with fail
  refine (k_check LL.out.gm SM.out).mono ?_
  rintro e v8 ⟨rfl, hb⟩
  have HBW := Lib.hid (below_next HBW.out hb)
  have SA := Lib.hid (SA.out.below hb)
  have SB := Lib.hid (SB.out.below hb)
  have SU := Lib.hid (SU.out.below hb)
  have SM := Lib.hid (SM.out.below hb)
  have SD := Lib.hid (SD.out.below hb)
  have SX := Lib.hid (SX.out.below hb)
  have SY := Lib.hid (SY.out.below hb)
  have SZ := Lib.hid (SZ.out.below hb)
  clear hb
  go_wp2_with fail
  refine (k_check LL.out.gd SD.out).mono ?_
  rintro e v9 ⟨rfl, hb⟩
  have HBW := Lib.hid (below_next HBW.out hb)
  have SA := Lib.hid (SA.out.below hb)
  have SB := Lib.hid (SB.out.below hb)
  have SU := Lib.hid (SU.out.below hb)
  have SM := Lib.hid (SM.out.below hb)
  have SD := Lib.hid (SD.out.below hb)
  have SX := Lib.hid (SX.out.below hb)
  have SY := Lib.hid (SY.out.below hb)
  have SZ := Lib.hid (SZ.out.below hb)
  clear hb
  go_wp2_with fail
  refine (k_check LL.out.gz SZ.out).mono ?_
  rintro e v10 ⟨rfl, hb⟩
  have HBW := Lib.hid (below_next HBW.out hb)
  have SA := Lib.hid (SA.out.below hb)
  have SB := Lib.hid (SB.out.below hb)
  have SU := Lib.hid (SU.out.below hb)
  have SM := Lib.hid (SM.out.below hb)
  have SD := Lib.hid (SD.out.below hb)
  have SX := Lib.hid (SX.out.below hb)
  have SY := Lib.hid (SY.out.below hb)
  have SZ := Lib.hid (SZ.out.below hb)
  clear hb
  have HPX := Lib.hid (show XAt (v10.alloc (.cells #[.int .i64 (pg : Int), .int .i64 1] 31)) v10.heap.size pg 1 from ⟨row_cell (heap_alloc_new v10 _) rfl, row_cell (heap_alloc_new v10 _) rfl⟩)
  have hb : Below v10.heap.size v10 (v10.alloc (.cells #[.int .i64 (pg : Int), .int .i64 1] 31)) := (Below.refl _ _).alloc (Nat.le_refl _) _
  have HBW := Lib.hid (below_next HBW.out hb)
  have SA := Lib.hid (SA.out.below hb)
  have SB := Lib.hid (SB.out.below hb)
  have SU := Lib.hid (SU.out.below hb)
  have SM := Lib.hid (SM.out.below hb)
  have SD := Lib.hid (SD.out.below hb)
  have SX := Lib.hid (SX.out.below hb)
  have SY := Lib.hid (SY.out.below hb)
  have SZ := Lib.hid (SZ.out.below hb)
  clear hb
  have q0 := HPX.out.c0
  have q1 := HPX.out.c1
  go_wp2_with fail
  refine (KA.out _ _ _ SA.out).mono ?_
  rintro e v11 ⟨rfl, hb⟩
  have HBW := Lib.hid (below_next HBW.out hb)
  have SA := Lib.hid (SA.out.below hb)
  have SB := Lib.hid (SB.out.below hb)
  have SU := Lib.hid (SU.out.below hb)
  have SM := Lib.hid (SM.out.below hb)
  have SD := Lib.hid (SD.out.below hb)
  have SX := Lib.hid (SX.out.below hb)
  have SY := Lib.hid (SY.out.below hb)
  have SZ := Lib.hid (SZ.out.below hb)
  have HPX := Lib.hid (HPX.out.below hb)
  clear hb
  clear q0 q1
  have q0 := HPX.out.c0
  have q1 := HPX.out.c1
  go_wp2_with fail
  refine (KB.out _ _ _ SB.out).mono ?_
  rintro e v12 ⟨rfl, hb⟩
  have HBW := Lib.hid (below_next HBW.out hb)
  have SA := Lib.hid (SA.out.below hb)
  have SB := Lib.hid (SB.out.below hb)
  have SU := Lib.hid (SU.out.below hb)
  have SM := Lib.hid (SM.out.below hb)
  have SD := Lib.hid (SD.out.below hb)
  have SX := Lib.hid (SX.out.below hb)
  have SY := Lib.hid (SY.out.below hb)
  have SZ := Lib.hid (SZ.out.below hb)
  have HPX := Lib.hid (HPX.out.below hb)
  clear hb
  clear q0 q1
  have q0 := HPX.out.c0
  have q1 := HPX.out.c1
  go_wp2_with fail
  refine (KU.out _ _ _ SU.out).mono ?_
  rintro e v13 ⟨rfl, hb⟩
  have HBW := Lib.hid (below_next HBW.out hb)
  have SA := Lib.hid (SA.out.below hb)
  have SB := Lib.hid (SB.out.below hb)
  have SU := Lib.hid (SU.out.below hb)
  have SM := Lib.hid (SM.out.below hb)
  have SD := Lib.hid (SD.out.below hb)
  have SX := Lib.hid (SX.out.below hb)
  have SY := Lib.hid (SY.out.below hb)
  have SZ := Lib.hid (SZ.out.below hb)
  have HPX := Lib.hid (HPX.out.below hb)
  clear hb
  clear q0 q1
  have q0 := HPX.out.c0
  have q1 := HPX.out.c1
  go_wp2_with fail
  refine (KM.out _ _ _ SM.out).mono ?_
  rintro e v14 ⟨rfl, hb⟩
  have HBW := Lib.hid (below_next HBW.out hb)
  have SA := Lib.hid (SA.out.below hb)
  have SB := Lib.hid (SB.out.below hb)
  have SU := Lib.hid (SU.out.below hb)
  have SM := Lib.hid (SM.out.below hb)
  have SD := Lib.hid (SD.out.below hb)
  have SX := Lib.hid (SX.out.below hb)
  have SY := Lib.hid (SY.out.below hb)
  have SZ := Lib.hid (SZ.out.below hb)
  have HPX := Lib.hid (HPX.out.below hb)
  clear hb
  clear q0 q1
  have q0 := HPX.out.c0
  have q1 := HPX.out.c1
  go_wp2_with fail
  refine (KD.out _ _ _ SD.out).mono ?_
  rintro e v15 ⟨rfl, hb⟩
  have HBW := Lib.hid (below_next HBW.out hb)
  have SA := Lib.hid (SA.out.below hb)
  have SB := Lib.hid (SB.out.below hb)
  have SU := Lib.hid (SU.out.below hb)
  have SM := Lib.hid (SM.out.below hb)
  have SD := Lib.hid (SD.out.below hb)
  have SX := Lib.hid (SX.out.below hb)
  have SY := Lib.hid (SY.out.below hb)
  have SZ := Lib.hid (SZ.out.below hb)
  have HPX := Lib.hid (HPX.out.below hb)
  clear hb
  clear q0 q1
  have q0 := HPX.out.c0
  have q1 := HPX.out.c1
  go_wp2_with fail
  refine (KZ.out _ _ _ SZ.out).mono ?_
  rintro e v16 ⟨rfl, hb⟩
  have HBW := Lib.hid (below_next HBW.out hb)
  have SA := Lib.hid (SA.out.below hb)
  have SB := Lib.hid (SB.out.below hb)
  have SU := Lib.hid (SU.out.below hb)
  have SM := Lib.hid (SM.out.below hb)
  have SD := Lib.hid (SD.out.below hb)
  have SX := Lib.hid (SX.out.below hb)
  have SY := Lib.hid (SY.out.below hb)
  have SZ := Lib.hid (SZ.out.below hb)
  have HPX := Lib.hid (HPX.out.below hb)
  clear hb
  clear q0 q1
  clear HPX r1 r2 r3
  cases ia <;> cases ib
  all_goals
    go_wp2_with fail
    refine (k_meet LL.out.v SA.out SY.out).mono ?_
    rintro e v17 ⟨v, rfl, hb, ho⟩
    obtain ⟨q17, c17, rfl, hs⟩ := own_sps (s := D) ho LL.out.gd.okay LL.out.gd.long
    have HBW := Lib.hid (below_next HBW.out hb)
    have SA := Lib.hid (SA.out.below hb)
    have SB := Lib.hid (SB.out.below hb)
    have SU := Lib.hid (SU.out.below hb)
    have SM := Lib.hid (SM.out.below hb)
    have SD := Lib.hid (SD.out.below hb)
    have SX := Lib.hid (SX.out.below hb)
    have SY := Lib.hid (SY.out.below hb)
    have SZ := Lib.hid (SZ.out.below hb)
    have SV := Lib.hid hs
    clear hb ho hs
    go_wp2_with fail
    refine (k_meet LL.out.w SX.out SY.out).mono ?_
    rintro e v18 ⟨v, rfl, hb, ho⟩
    obtain ⟨q18, c18, rfl, hs⟩ := own_sps (s := Z) ho LL.out.gz.okay LL.out.gz.long
    have HBW := Lib.hid (below_next HBW.out hb)
    have SA := Lib.hid (SA.out.below hb)
    have SB := Lib.hid (SB.out.below hb)
    have SU := Lib.hid (SU.out.below hb)
    have SM := Lib.hid (SM.out.below hb)
    have SD := Lib.hid (SD.out.below hb)
    have SX := Lib.hid (SX.out.below hb)
    have SY := Lib.hid (SY.out.below hb)
    have SZ := Lib.hid (SZ.out.below hb)
    have SV := Lib.hid (SV.out.below hb)
    have SW := Lib.hid hs
    clear hb ho hs
    go_wp2_with fail
    refine (k_union LL.out.k SA.out SM.out).mono ?_
    rintro e v19 ⟨v, rfl, hb, ho⟩
    obtain ⟨q19, c19, rfl, hs⟩ := own_sps (s := A) ho GA.out.okay GA.out.long
    have HBW := Lib.hid (below_next HBW.out hb)
    have SA := Lib.hid (SA.out.below hb)
    have SB := Lib.hid (SB.out.below hb)
    have SU := Lib.hid (SU.out.below hb)
    have SM := Lib.hid (SM.out.below hb)
    have SD := Lib.hid (SD.out.below hb)
    have SX := Lib.hid (SX.out.below hb)
    have SY := Lib.hid (SY.out.below hb)
    have SZ := Lib.hid (SZ.out.below hb)
    have SV := Lib.hid (SV.out.below hb)
    have SW := Lib.hid (SW.out.below hb)
    have SK := Lib.hid hs
    clear hb ho hs
    go_wp2_with fail
    refine (k_meet LL.out.o SA.out SU.out).mono ?_
    rintro e v20 ⟨v, rfl, hb, ho⟩
    obtain ⟨q20, c20, rfl, hs⟩ := own_sps (s := A) ho GA.out.okay GA.out.long
    have HBW := Lib.hid (below_next HBW.out hb)
    have SA := Lib.hid (SA.out.below hb)
    have SB := Lib.hid (SB.out.below hb)
    have SU := Lib.hid (SU.out.below hb)
    have SM := Lib.hid (SM.out.below hb)
    have SD := Lib.hid (SD.out.below hb)
    have SX := Lib.hid (SX.out.below hb)
    have SY := Lib.hid (SY.out.below hb)
    have SZ := Lib.hid (SZ.out.below hb)
    have SV := Lib.hid (SV.out.below hb)
    have SW := Lib.hid (SW.out.below hb)
    have SK := Lib.hid (SK.out.below hb)
    have SO := Lib.hid hs
    clear hb ho hs
    go_wp2_with fail
    refine (k_same SV.out SD.out).mono ?_
    rintro e v21 ⟨rfl, hb⟩
    have HBW := Lib.hid (below_next HBW.out hb)
    have SA := Lib.hid (SA.out.below hb)
    have SB := Lib.hid (SB.out.below hb)
    have SU := Lib.hid (SU.out.below hb)
    have SM := Lib.hid (SM.out.below hb)
    have SD := Lib.hid (SD.out.below hb)
    have SX := Lib.hid (SX.out.below hb)
    have SY := Lib.hid (SY.out.below hb)
    have SZ := Lib.hid (SZ.out.below hb)
    have SV := Lib.hid (SV.out.below hb)
    have SW := Lib.hid (SW.out.below hb)
    have SK := Lib.hid (SK.out.below hb)
    have SO := Lib.hid (SO.out.below hb)
    clear hb
    go_wp2_with fail
    refine (k_same SW.out SZ.out).mono ?_
    rintro e v22 ⟨rfl, hb⟩
    have HBW := Lib.hid (below_next HBW.out hb)
    have SA := Lib.hid (SA.out.below hb)
    have SB := Lib.hid (SB.out.below hb)
    have SU := Lib.hid (SU.out.below hb)
    have SM := Lib.hid (SM.out.below hb)
    have SD := Lib.hid (SD.out.below hb)
    have SX := Lib.hid (SX.out.below hb)
    have SY := Lib.hid (SY.out.below hb)
    have SZ := Lib.hid (SZ.out.below hb)
    have SV := Lib.hid (SV.out.below hb)
    have SW := Lib.hid (SW.out.below hb)
    have SK := Lib.hid (SK.out.below hb)
    have SO := Lib.hid (SO.out.below hb)
    clear hb
    go_wp2_with fail
    refine (k_same SK.out SA.out).mono ?_
    rintro e v23 ⟨rfl, hb⟩
    have HBW := Lib.hid (below_next HBW.out hb)
    have SA := Lib.hid (SA.out.below hb)
    have SB := Lib.hid (SB.out.below hb)
    have SU := Lib.hid (SU.out.below hb)
    have SM := Lib.hid (SM.out.below hb)
    have SD := Lib.hid (SD.out.below hb)
    have SX := Lib.hid (SX.out.below hb)
    have SY := Lib.hid (SY.out.below hb)
    have SZ := Lib.hid (SZ.out.below hb)
    have SV := Lib.hid (SV.out.below hb)
    have SW := Lib.hid (SW.out.below hb)
    have SK := Lib.hid (SK.out.below hb)
    have SO := Lib.hid (SO.out.below hb)
    clear hb
    go_wp2_with fail
    refine (k_same SO.out SA.out).mono ?_
    rintro e v24 ⟨rfl, hb⟩
    have HBW := Lib.hid (below_next HBW.out hb)
    have SA := Lib.hid (SA.out.below hb)
    have SB := Lib.hid (SB.out.below hb)
    have SU := Lib.hid (SU.out.below hb)
    have SM := Lib.hid (SM.out.below hb)
    have SD := Lib.hid (SD.out.below hb)
    have SX := Lib.hid (SX.out.below hb)
    have SY := Lib.hid (SY.out.below hb)
    have SZ := Lib.hid (SZ.out.below hb)
    have SV := Lib.hid (SV.out.below hb)
    have SW := Lib.hid (SW.out.below hb)
    have SK := Lib.hid (SK.out.below hb)
    have SO := Lib.hid (SO.out.below hb)
    clear hb
    go_wp2_with fail
    refine (CA.out _).mono ?_
    rintro e v25 ⟨rfl, hb⟩
    have HBW := Lib.hid (below_next HBW.out hb)
    have SA := Lib.hid (SA.out.below hb)
    have SB := Lib.hid (SB.out.below hb)
    have SU := Lib.hid (SU.out.below hb)
    have SM := Lib.hid (SM.out.below hb)
    have SD := Lib.hid (SD.out.below hb)
    have SX := Lib.hid (SX.out.below hb)
    have SY := Lib.hid (SY.out.below hb)
    have SZ := Lib.hid (SZ.out.below hb)
    have SV := Lib.hid (SV.out.below hb)
    have SW := Lib.hid (SW.out.below hb)
    have SK := Lib.hid (SK.out.below hb)
    have SO := Lib.hid (SO.out.below hb)
    clear hb
    go_wp2_with fail
    go_ret
    exact ⟨rfl, HBW.out⟩
end Go.Proofs.Ytiaeidcillphnaa
