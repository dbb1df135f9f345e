/- The reference's count, Has, Meets, Count. -/
import Derived.Test.YtiaeidcillphnaaSpCnt
import Derived.Test.YtiaeidcillphnaaSpComb2
namespace Go.Proofs.Ytiaeidcillphnaa
open Go.RowKit

set_option maxRecDepth 100000 in
theorem one_box (w : World) (fa : Nat → Bool) : ∃ W1,
    (storeCells ⟨w.heap.size, 0, none⟩ (boolA fa 1024).toList).run Try.prog (w.alloc (.cells Try.zeroCells106 106)) = .ok () W1 ∧ Below w.heap.size w W1 ∧ BoolsIn W1 w.heap.size fa := by
  have n1 := heap_alloc_new w (.cells Try.zeroCells106 106)
  have hb : Below w.heap.size w (w.alloc (.cells Try.zeroCells106 106)) := (Below.refl _ _).alloc (Nat.le_refl _) _
  rw [boolA_zero] at n1 hb ⊢
  generalize w.alloc (.cells (boolA (fun _ => false) 1024) 106) = W0 at n1 hb ⊢
  exact ⟨_, run_store_boolA (f := fa) n1, hb.trans (below_setCells (Nat.le_refl _) _ 0 W0), boolsIn_range (World.rangeAt_setCells_same W0 w.heap.size 0 (boolA fa 1024).toList (by rw [show (boolA fa 1024).toList.length = 1024 from by rw [Array.length_toList, boolA_size]]; exact there_boolA n1))⟩
set_option maxHeartbeats 4000000 in
set_option maxRecDepth 100000 in
theorem rcount_any (s : List (Nat × Nat)) (p : Option Addr) (cap : Nat) (a b : Nat) (w : World) (h : SpsAt w p (up s)) (hok : Okay s) (hl : s.length ≤ 2100) (hab : a + b ≤ 1024) :
    Calls Try.prog 87 #[.slice p s.length cap, .agg #[.int .i64 (a : Int), .int .i64 (b : Int)]] w fun e w' => e = .returned (.int .i64 (cntP (inS s) a b : Int)) ∧ Below w.heap.size w w' := by
  have hbe : Below w.heap.size w (w.alloc (.cells #[.int .i64 (a : Int), .int .i64 (b : Int)] 31)) := (Below.refl _ _).alloc (Nat.le_refl _) _
  have M1 := Lib.hid (rmarks_any s p cap (w.alloc (.cells #[.int .i64 (a : Int), .int .i64 (b : Int)] 31)) (h.below hbe) hok hl)
  have HX := Lib.hid (show XAt (w.alloc (.cells #[.int .i64 (a : Int), .int .i64 (b : Int)] 31)) w.heap.size a b from ⟨row_cell (heap_alloc_new w _) rfl, row_cell (heap_alloc_new w _) rfl⟩)
  have HBE := Lib.hid hbe
  generalize inS s = f at M1 ⊢
  clear h hok hbe
  go_enter Try.func87, Try.ntmps87
  go_wp2_with fail
  refine M1.out.mono ?_
  rintro e w1 ⟨rfl, hb⟩
  have HB1 := Lib.hid (HBE.out.trans (hb.mono HBE.out.size))
  have HX1 := Lib.hid (HX.out.below hb)
  clear hb HX
  obtain ⟨W1, r1, rb, rx⟩ := one_box w1 f
  have HB2 := Lib.hid (below_next HB1.out rb)
  have HX2 := Lib.hid (HX1.out.below rb)
  have HM := Lib.hid rx
  have x0 := HX2.out.c0
  clear rb rx HX1
  obtain ⟨e, he⟩ : ∃ e, e = a + b := ⟨_, rfl⟩
  have e1 : IntKind.i64.wrap ((a : Int) + (b : Int)) = (a : Int) + (b : Int) := IntWalk.i64_in _ (by omega)
  have HE2 := Lib.hid (show (a : Int) + (b : Int) = (e : Int) by omega)
  have HEB := Lib.hid he
  have he4 : e ≤ 1024 := by omega
  have hae : a ≤ e := by omega
  clear he
  go_wp2_with fail
  clear x0
  go_loopg [6, 7] (e - a) (fun n1 m q W => ∃ pg c : Nat, pg + n1 = e ∧ a ≤ pg ∧ q = .int .i64 pg ∧ m = .int .i64 c ∧ c = cntP f a (pg - a) ∧ W = W1)
  case atStart => exact ⟨a, 0, by omega, Nat.le_refl _, rfl, rfl, by rw [Nat.sub_self]; rfl, rfl⟩
  case round =>
    obtain ⟨pg, c, hpn, hap, rfl, rfl, hcc, rfl⟩ := hrel
    have x0 := HX2.out.c0
    have x1 := HX2.out.c1
    have p0 : (0 : Int) ≤ pg := by omega
    have hc4 := cnt_le f a (pg - a)
    rw [← hcc] at hc4
    have hc5 : (c : Int) ≤ 1024 := by omega
    have c0 : (0 : Int) ≤ c := by omega
    have HCC := Lib.hid hcc
    clear hcc hc4
    by_cases hlt : pg < e
    · have m0 := HM.out pg (by omega)
      have i2 : (pg : Int) < (a : Int) + (b : Int) := by have := HE2.out; omega
      have i3 : (pg : Int) < 1024 := by omega
      have hst : cntP f a (pg + 1 - a) = c + (if f pg = true then 1 else 0) := by
        rw [show pg + 1 - a = pg - a + 1 by omega, cntP, ← HCC.out, show a + (pg - a) = pg by omega]
      cases hf : f pg
      all_goals
        rw [hf] at m0 hst
        have HST := Lib.hid hst
        clear hst hf
        go_wp2_with fail
        go_roundg (e - (pg + 1))
        case measure => omega
        case rel => exact ⟨pg + 1, _, by omega, by omega, by go_num, by first | rfl | (go_num), HST.out.symm, rfl⟩
    · obtain rfl : pg = e := by omega
      have i2 : ¬ (pg : Int) < (a : Int) + (b : Int) := by have := HE2.out; omega
      have hb' := HEB.out
      have HF := Lib.hid (show cntP f a b = c by rw [HCC.out]; congr 1; omega)
      clear hb'
      go_wp2_with fail
      go_ret
      exact ⟨by rw [HF.out]; rfl, HB2.out⟩
theorem any_up (s : List (Nat × Nat)) (P : Int × Int → Bool) : (up s).any P = s.any fun y => P ((y.1 : Int), (y.2 : Int)) := by
  unfold up; rw [List.any_map]; rfl
theorem ask_eq {l : List (Int × Int)} {a b : Int} (h : withR l (a, b) = 0) : ∃ a' b' : Nat, a = a' ∧ b = b' ∧ 1 ≤ b' ∧ a' + b' ≤ 1024 ∧ Okay (down l) ∧ l.all validR = true ∧ l.length ≤ 512 ∧
    hasR l (a, b) = (decide (cntP (inS (down l)) a' b' = b'), 0) ∧ meetsR l (a, b) = (decide (0 < cntP (inS (down l)) a' b'), 0) := by
  obtain ⟨h1, h2⟩ := withR_ok h
  obtain ⟨hv, hs, hl⟩ := check_set h1
  have h3 := (validR_iff _).1 h2
  simp only at h3
  refine ⟨a.toNat, b.toNat, by omega, by omega, by omega, by omega, down_okay hv, hv, hl, ?_, ?_⟩
  · unfold hasR
    rw [if_neg (by simpa using h), has_math hs (by omega)]
    congr 1
    conv => lhs; rw [← up_down hv, any_up]
    refine congrArg (fun P => List.any (down l) P) (funext fun y => ?_)
    unfold hitHas
    simp only
    rw [decide_eq_decide.2 (show ((y.1 : Int) ≤ a) ↔ y.1 ≤ a.toNat by omega), decide_eq_decide.2 (show (a + b ≤ (y.1 : Int) + (y.2 : Int)) ↔ a.toNat + b.toNat ≤ y.1 + y.2 by omega)]
  · unfold meetsR
    rw [if_neg (by simpa using h), meets_math hs (by omega)]
    congr 1
    conv => lhs; rw [← up_down hv, any_up]
    refine congrArg (fun P => List.any (down l) P) (funext fun y => ?_)
    unfold hitMeets
    simp only
    rw [decide_eq_decide.2 (show ((y.1 : Int) < a + b) ↔ y.1 < a.toNat + b.toNat by omega), decide_eq_decide.2 (show (a < (y.1 : Int) + (y.2 : Int)) ↔ a.toNat < y.1 + y.2 by omega)]
theorem eq_dec (c b : Nat) : ((c : Int) == (b : Int)) = decide (c = b) := by
  rw [Bool.eq_iff_iff, beq_iff_eq, decide_eq_true_eq]; omega
theorem pos_dec (c : Nat) : decide (0 < (c : Int)) = decide (0 < c) := decide_eq_decide.2 (by omega)
set_option maxHeartbeats 2000000 in
set_option maxRecDepth 100000 in
theorem rHas_any (l : List (Int × Int)) (p : Option Addr) (cap : Nat) (a b : Int) (w : World) (h : SpsAt w p l) (hf : Fits (a, b)) :
    Calls Try.prog 30 #[.slice p l.length cap, .agg #[.int .i64 a, .int .i64 b]] w (BoolErr (hasR l (a, b)) w) := by
  have hbe : Below w.heap.size w (w.alloc (.cells #[.int .i64 a, .int .i64 b] 31)) := (Below.refl _ _).alloc (Nat.le_refl _) _
  have ck := asked_any l p cap a b (w.alloc (.cells #[.int .i64 a, .int .i64 b] 31)) (h.below hbe) hf
  have e : hasR l (a, b) = if withR l (a, b) ≠ 0 then (false, withR l (a, b)) else (l.any (hitHas (a, b)), 0) := rfl
  have hask := ask_eq (l := l) (a := a) (b := b)
  have HX := Lib.hid (show XAt (w.alloc (.cells #[.int .i64 a, .int .i64 b] 31)) w.heap.size a b from ⟨row_cell (heap_alloc_new w _) rfl, row_cell (heap_alloc_new w _) rfl⟩)
  have HP := Lib.hid h
  unfold ErrPost at ck
  by_cases hc : withR l (a, b) ≠ 0
  · rw [if_pos hc] at e
    generalize withR l (a, b) = c at ck e hc
    generalize hasR l (a, b) = r at e
    obtain ⟨t1, t2⟩ := neq0 hc
    have E := Lib.hid e; have CK := Lib.hid ck
    clear e hc hask ck h hbe
    go_enter Try.func30, Try.ntmps30
    go_wp2_with fail
    refine CK.out.mono ?_
    rintro e w1 ⟨rfl, hb⟩
    have HB1 := Lib.hid (boxB hb)
    clear hb
    go_wp2_with fail
    go_ret2
    exact boolErr_mk E.out HB1.out
  · have hc0 := Classical.not_not.1 hc
    obtain ⟨a', b', rfl, rfl, hb1, hab, hok, hv, hl5, hh, hm⟩ := hask hc0
    rw [hc0] at ck
    have e' := hh
    have cn := fun W (hW : Below w.heap.size w W) => rcount_any (down l) p cap a' b' W (by rw [up_down hv]; exact h.below hW) hok (by rw [down_len]; omega) hab
    rw [down_len] at cn
    have hcl := cnt_le (inS (down l)) a' b'
    generalize cntP (inS (down l)) a' b' = n at e' cn hcl
    generalize hasR l ((a' : Int), (b' : Int)) = r at e'
    have E := Lib.hid e'; have CK := Lib.hid ck; have CN := Lib.hid cn
    have n4 : (n : Int) ≤ 1024 := by omega
    have n0 : (0 : Int) ≤ n := by omega
    clear e e' hc hc0 hask ck h hbe hh hm cn hok hv
    go_enter Try.func30, Try.ntmps30
    go_wp2_with fail
    refine CK.out.mono ?_
    rintro e w1 ⟨rfl, hb⟩
    have HX1 := Lib.hid (HX.out.below hb)
    have HB1 := Lib.hid (boxB hb)
    clear hb
    go_wp2_with fail
    generalize w.heap.size = Bp at HX1 ⊢
    refine region_below (C := fun w' => Below w1.heap.size w1 w') (by kernel_rfl) (by kernel_rfl) (drewOne _ _) ?_
    refine BigFrame.wpQuiet_want rfl (fun K hK => BigFrame.quiet_move _ rfl (hK _ ?_)); clear hK K; go_simp
    refine BigFrame.wpQuiet_want rfl (fun K hK => ⟨.agg #[.int .i64 (a' : Int), .int .i64 (b' : Int)], fun w' hw' => ?_, hK _ ?_⟩)
    · have f0 := (HX1.out.below hw').c0
      have f1 := (HX1.out.below hw').c1
      unfold Oper.quietAt
      simp [go_sem, Oper.quietUpon, f0, f1]
    clear hK K; go_simp
    refine BigFrame.wpQuiet_want rfl (fun K hK => ⟨.int .i64 (n : Int), fun w' hw' => ?_, hK _ ?_⟩)
    · unfold Oper.quietAt
      simp [go_sem, Oper.quietUpon]
      refine (CN.out _ (below_next HB1.out hw')).mono ?_
      rintro e' wz ⟨rfl, hb⟩
      exact ⟨rfl, hw'.trans (hb.mono hw'.size)⟩
    clear hK K; go_simp
    refine BigFrame.wpQuiet_want rfl (fun K hK => ⟨.pointer (some ⟨Bp, 1, none⟩), fun w' hw' => ?_, hK _ ?_⟩)
    · unfold Oper.quietAt
      simp [go_sem, Oper.quietUpon]
    clear hK K; go_simp
    refine BigFrame.wpQuiet_want rfl (fun K hK => ⟨.int .i64 (b' : Int), fun w' hw' => ?_, hK _ ?_⟩)
    · have f1 := (HX1.out.below hw').c1
      unfold Oper.quietAt
      simp [go_sem, Oper.quietUpon, f1]
    clear hK K; go_simp
    refine BigFrame.wpQuiet_want rfl (fun K hK => ⟨.bool ((n : Int) == (b' : Int)), fun w' hw' => ?_, hK _ ?_⟩)
    · unfold Oper.quietAt
      simp [go_sem, Oper.quietUpon]
    clear hK K; go_simp
    refine BigFrame.wpQuiet_want rfl (fun K hK => BigFrame.quiet_assign _ rfl (hK _ ?_)); clear hK K; go_simp
    refine BigFrame.wpQuiet_want rfl (fun K hK => BigFrame.quiet_assign _ rfl (hK _ ?_)); clear hK K; go_simp
    refine wpQuiet_nil ?_
    intro w2 hb
    have HB2 := Lib.hid (below_next HB1.out hb)
    clear hb
    go_wp2_with fail
    go_ret2
    exact boolErr_mk (by rw [E.out, eq_dec]) HB2.out
set_option maxHeartbeats 2000000 in
set_option maxRecDepth 100000 in
theorem rMeets_any (l : List (Int × Int)) (p : Option Addr) (cap : Nat) (a b : Int) (w : World) (h : SpsAt w p l) (hf : Fits (a, b)) :
    Calls Try.prog 32 #[.slice p l.length cap, .agg #[.int .i64 a, .int .i64 b]] w (BoolErr (meetsR l (a, b)) w) := by
  have hbe : Below w.heap.size w (w.alloc (.cells #[.int .i64 a, .int .i64 b] 31)) := (Below.refl _ _).alloc (Nat.le_refl _) _
  have ck := asked_any l p cap a b (w.alloc (.cells #[.int .i64 a, .int .i64 b] 31)) (h.below hbe) hf
  have e : meetsR l (a, b) = if withR l (a, b) ≠ 0 then (false, withR l (a, b)) else (l.any (hitMeets (a, b)), 0) := rfl
  have hask := ask_eq (l := l) (a := a) (b := b)
  have HX := Lib.hid (show XAt (w.alloc (.cells #[.int .i64 a, .int .i64 b] 31)) w.heap.size a b from ⟨row_cell (heap_alloc_new w _) rfl, row_cell (heap_alloc_new w _) rfl⟩)
  have HP := Lib.hid h
  unfold ErrPost at ck
  by_cases hc : withR l (a, b) ≠ 0
  · rw [if_pos hc] at e
    generalize withR l (a, b) = c at ck e hc
    generalize meetsR l (a, b) = r at e
    obtain ⟨t1, t2⟩ := neq0 hc
    have E := Lib.hid e; have CK := Lib.hid ck
    clear e hc hask ck h hbe
    go_enter Try.func32, Try.ntmps32
    go_wp2_with fail
    refine CK.out.mono ?_
    rintro e w1 ⟨rfl, hb⟩
    have HB1 := Lib.hid (boxB hb)
    clear hb
    go_wp2_with fail
    go_ret2
    exact boolErr_mk E.out HB1.out
  · have hc0 := Classical.not_not.1 hc
    obtain ⟨a', b', rfl, rfl, hb1, hab, hok, hv, hl5, hh, hm⟩ := hask hc0
    rw [hc0] at ck
    have e' := hm
    have cn := fun W (hW : Below w.heap.size w W) => rcount_any (down l) p cap a' b' W (by rw [up_down hv]; exact h.below hW) hok (by rw [down_len]; omega) hab
    rw [down_len] at cn
    have hcl := cnt_le (inS (down l)) a' b'
    generalize cntP (inS (down l)) a' b' = n at e' cn hcl
    generalize meetsR l ((a' : Int), (b' : Int)) = r at e'
    have E := Lib.hid e'; have CK := Lib.hid ck; have CN := Lib.hid cn
    have n4 : (n : Int) ≤ 1024 := by omega
    have n0 : (0 : Int) ≤ n := by omega
    clear e e' hc hc0 hask ck h hbe hh hm cn hok hv
    go_enter Try.func32, Try.ntmps32
    go_wp2_with fail
    refine CK.out.mono ?_
    rintro e w1 ⟨rfl, hb⟩
    have HX1 := Lib.hid (HX.out.below hb)
    have HB1 := Lib.hid (boxB hb)
    have q0 := HX1.out.c0
    have q1 := HX1.out.c1
    clear hb
    go_wp2_with fail
    refine (CN.out _ HB1.out).mono ?_
    rintro e w2 ⟨rfl, hb⟩
    have HB2 := Lib.hid (below_next HB1.out hb)
    have HX2 := Lib.hid (HX1.out.below hb)
    clear hb q0 q1
    have q1 := HX2.out.c1
    go_wp2_with fail
    go_ret2
    exact boolErr_mk (by rw [E.out]) HB2.out
set_option maxHeartbeats 2000000 in
set_option maxRecDepth 100000 in
theorem rCount_any (l : List (Int × Int)) (p : Option Addr) (cap : Nat) (w : World) (h : SpsAt w p l) :
    Calls Try.prog 34 #[.slice p l.length cap] w (IntErr (countR l) w) := by
  have ck := rcheck_any l p cap w h
  have e : countR l = if checkR l ≠ 0 then (0, checkR l) else ((sumS (down l) : Int), 0) := rfl
  have hok := check_set (l := l)
  have HP := Lib.hid h
  unfold ErrPost at ck
  generalize checkR l = c at ck e hok
  generalize countR l = r at e
  have CK := Lib.hid ck
  clear ck h
  by_cases hc : c ≠ 0
  · rw [if_pos hc] at e
    obtain ⟨t1, t2⟩ := neq0 hc
    have E := Lib.hid e
    clear e hc hok
    go_enter Try.func34, Try.ntmps34
    go_wp2_with fail
    refine CK.out.mono ?_
    rintro e w1 ⟨rfl, hb⟩
    have HB1 := Lib.hid hb
    clear hb
    go_wp2_with fail
    go_ret2
    exact intErr_mk E.out HB1.out
  · obtain rfl : c = 0 := Classical.not_not.1 hc
    rw [if_neg hc] at e
    obtain ⟨hv, hs, hl5⟩ := hok rfl
    rw [← count_math hs] at e
    have cn := fun W (hW : Below w.heap.size w W) => rcount_any (down l) p cap 0 1024 W (by rw [up_down hv]; exact HP.out.below hW) (down_okay hv) (by rw [down_len]; omega) (by omega)
    rw [down_len] at cn
    generalize cntP (inS (down l)) 0 1024 = n at e cn
    have E := Lib.hid e; have CN := Lib.hid cn
    clear e hc hok hv hs cn
    go_enter Try.func34, Try.ntmps34
    go_wp2_with fail
    refine CK.out.mono ?_
    rintro e w1 ⟨rfl, hb⟩
    have HB1 := Lib.hid hb
    clear hb
    go_wp2_with fail
    refine (CN.out _ HB1.out).mono ?_
    rintro e w2 ⟨rfl, hb⟩
    have HB2 := Lib.hid (below_next HB1.out hb)
    clear hb
    go_wp2_with fail
    go_ret2
    exact intErr_mk E.out HB2.out
end Go.Proofs.Ytiaeidcillphnaa
