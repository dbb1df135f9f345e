/- The reference's Meet, Minus, Union, Not. -/
import Derived.Test.YtnhbilcpdombfaaSpComb
namespace Go.Proofs.Ytnhbilcpdombfaa
open Go.RowKit

set_option maxHeartbeats 4000000 in
set_option maxRecDepth 100000 in
theorem comb2_any (a b : List (Int × Int)) (p q : Option Addr) (c d : Nat) (w : World) (h : SpsAt w p a) (h' : SpsAt w q b) :
    Calls Try.prog 54 #[.slice p a.length c, .slice q b.length d, .int .i64 2] w (SpsErr (meetR a b) w) := by
  have c1 := fun W (hW : Below w.heap.size w W) => rcheck_any a p c W (h.below hW)
  have c2 := fun W (hW : Below w.heap.size w W) => rcheck_any b q d W (h'.below hW)
  unfold ErrPost at c1 c2
  have e : meetR a b = joinedR (fun p => inS (down a) p && inS (down b) p) (setsE a b) := rfl
  have es : setsE a b = if checkR a ≠ 0 then checkR a else checkR b := rfl
  unfold joinedR at e
  have hoka := check_set (l := a)
  have hokb := check_set (l := b)
  have HP := Lib.hid h; have HQ := Lib.hid h'
  generalize checkR a = ka at c1 es hoka
  generalize checkR b = kb at c2 es hokb
  generalize setsE a b = cc at e es
  generalize meetR a b = r at e
  have C1 := Lib.hid c1; have C2 := Lib.hid c2
  clear c1 c2 h h'
  by_cases ha : ka ≠ 0
  · rw [if_pos ha] at es
    subst es
    rw [if_pos ha] at e
    obtain ⟨t1, t2⟩ := neq0 ha
    have E := Lib.hid e
    clear e ha hoka hokb
    go_enter Try.func54, Try.ntmps54
    go_wp2_with fail
    refine (C1.out _ (Below.refl _ _)).mono ?_
    rintro e w1 ⟨rfl, hb⟩
    have HB1 := Lib.hid hb
    clear hb
    go_wp2_with fail
    go_ret2
    exact spsErr_err E.out HB1.out
  · obtain rfl : ka = 0 := Classical.not_not.1 ha
    rw [if_neg ha] at es
    rw [es] at e
    clear es
    by_cases hb0 : kb ≠ 0
    · rw [if_pos hb0] at e
      obtain ⟨t1, t2⟩ := neq0 hb0
      have E := Lib.hid e
      clear e hb0 hoka hokb ha
      go_enter Try.func54, Try.ntmps54
      go_wp2_with fail
      refine (C1.out _ (Below.refl _ _)).mono ?_
      rintro e w1 ⟨rfl, hb⟩
      have HB1 := Lib.hid hb
      clear hb
      go_wp2_with fail
      refine (C2.out _ HB1.out).mono ?_
      rintro e w2 ⟨rfl, hb⟩
      have HB2 := Lib.hid (below_next HB1.out hb)
      clear hb
      go_wp2_with fail
      go_ret2
      exact spsErr_err E.out HB2.out
    · obtain rfl : kb = 0 := Classical.not_not.1 hb0
      rw [if_neg hb0] at e
      obtain ⟨hva, hsa, hla⟩ := hoka rfl
      obtain ⟨hvb, hsb, hlb⟩ := hokb rfl
      have hua := up_down hva
      have hub := up_down hvb
      have m1 := fun W (hW : Below w.heap.size w W) => rmarks_any (down a) p c W (by rw [hua]; exact HP.out.below hW) (down_okay hva) (by rw [down_len]; omega)
      have m2 := fun W (hW : Below w.heap.size w W) => rmarks_any (down b) q d W (by rw [hub]; exact HQ.out.below hW) (down_okay hvb) (by rw [down_len]; omega)
      rw [down_len] at m1 m2
      generalize inS (down a) = fa at e m1
      generalize inS (down b) = fb at e m2
      have M1 := Lib.hid m1; have M2 := Lib.hid m2; have E := Lib.hid e
      clear e hoka hokb ha hb0 hva hvb hsa hsb hua hub m1 m2
      go_enter Try.func54, Try.ntmps54
      go_wp2_with fail
      refine (C1.out _ (Below.refl _ _)).mono ?_
      rintro e w1 ⟨rfl, hb⟩
      have HB1 := Lib.hid hb
      clear hb
      go_wp2_with fail
      refine (C2.out _ HB1.out).mono ?_
      rintro e w2 ⟨rfl, hb⟩
      have HB2 := Lib.hid (below_next HB1.out hb)
      clear hb
      go_wp2_with fail
      refine (M1.out _ HB2.out).mono ?_
      rintro e w3 ⟨rfl, hb⟩
      have HB3 := Lib.hid (below_next HB2.out hb)
      clear hb
      go_wp2_with fail
      refine (M2.out _ HB3.out).mono ?_
      rintro e w4 ⟨rfl, hb⟩
      have HB4 := Lib.hid (below_next HB3.out hb)
      clear hb
      obtain ⟨W1, W2, r1, r2, rb, rx, ry, rs⟩ := two_boxes w4 fa fb
      have HB5 := Lib.hid (below_next HB4.out rb); have HX := Lib.hid rx; have HY := Lib.hid ry; have HS := Lib.hid rs
      clear rb rx ry rs
      go_wp2_with fail
      obtain ⟨P, hP⟩ : ∃ P : Nat → Bool, P = fun p => fa p && fb p := ⟨_, rfl⟩
      have hPp : ∀ j, P j = (fa j && fb j) := fun j => by rw [hP]
      rw [← hP] at E
      have HPP := Lib.hid hPp
      have hs4 := HS.out
      have bs1 : w4.heap.size < W2.heap.size := by omega
      have bs2 : w4.heap.size + 1 < W2.heap.size := by omega
      have bs0 : w.heap.size ≤ W2.heap.size := HB5.out.size
      obtain ⟨bx, hbx⟩ : ∃ bx, bx = w4.heap.size := ⟨_, rfl⟩
      obtain ⟨by_, hby⟩ : ∃ by_, by_ = w4.heap.size + 1 := ⟨_, rfl⟩
      rw [← hby] at HY bs2 ⊢
      rw [← hbx] at HX bs1 ⊢
      obtain ⟨bo, hbo⟩ : ∃ bo, bo = W2.heap.size := ⟨_, rfl⟩
      have HM := Lib.hid (show CmI w (W2.alloc (.cells Try.zeroCells69 69)) bx by_ bo fa fb (fun j => decide (j < 0) && P j) from by
        have hbe : Below W2.heap.size W2 (W2.alloc (.cells Try.zeroCells69 69)) := (Below.refl _ _).alloc (Nat.le_refl _) _
        refine ⟨below_next HB5.out hbe, HX.out.below hbe, HY.out.below hbe, ?_⟩
        have := heap_alloc_new W2 (.cells Try.zeroCells69 69)
        rw [hbo, this, boolA_zero, show (fun j : Nat => decide (j < 0) && P j) = fun _ => false from by funext j; simp])
      have g1 : bx < bo := by omega
      have g2 : by_ < bo := by omega
      have g3 : w.heap.size ≤ bo := by omega
      rw [← hbo]
      clear hP hPp hbx hby hbo bs1 bs2 bs0 hs4 r1 r2 HX HY HS HB5
      go_loopg [12] 1024 (fun n1 i W => ∃ k : Nat, k + n1 = 1024 ∧ i = .int .i64 k ∧ CmI w W bx by_ bo fa fb (fun j => decide (j < k) && P j))
      case atStart => exact ⟨0, by omega, by go_num, HM.out⟩
      case round =>
        clear HM
        obtain ⟨k, hkn, rfl, hinv⟩ := hrel
        have HI := Lib.hid hinv
        clear hinv
        have k0 : (0 : Int) ≤ k := by omega
        by_cases hlt : k < 1024
        · obtain ⟨n', rfl⟩ : ∃ n', gk = n' + 1 := ⟨gk - 1, by omega⟩
          have i1 : (k : Int) < 1024 := by omega
          have x0 := HI.out.x k hlt
          have y0 := HI.out.y k hlt
          obtain ⟨o0, o1⟩ := HI.out.at_ hlt
          have hpk := HPP.out k
          have HN := Lib.hid (HI.out.set (k := k) (P := P) g1 g2 g3)
          have s1 : ¬ bx = bo := by omega
          have s2 : ¬ by_ = bo := by omega
          cases hfa : fa k <;> cases hfb : fb k
          all_goals
            rw [hfa] at x0 hpk
            rw [hfb] at y0 hpk
            have HPK := Lib.hid hpk
            clear hpk hfa hfb
            go_wp2_with fail
            go_roundg n'
            case measure => omega
            case rel => exact ⟨k + 1, by omega, by go_num, by have := HN.out; rw [HPK.out] at this; exact this⟩
        · obtain rfl : k = 1024 := by omega
          have ho := HI.out.out
          rw [boolA_congr (f := fun j => decide (j < 1024) && P j) (g := P) (fun i hi => by simp [hi])] at ho
          have HO := Lib.hid ho; have HB := Lib.hid HI.out.below
          have CS := Lib.hid (rset_any P wr)
          have i1 : ¬ ((1024 : Nat) : Int) < 1024 := by omega
          clear ho HI HPP
          go_wp2_with fail
          refine wp_load_boolA rfl rfl HO.out ?_
          go_wp2_with fail
          refine CS.out.mono ?_
          rintro e w5 ⟨v, rfl, hb, hrow⟩
          have HB5 := Lib.hid (below_next HB.out hb)
          have HRW := Lib.hid (ownsRow_base hrow HB.out.size)
          clear hb hrow
          go_wp2_with fail
          go_ret2
          exact spsErr_mk E.out HB5.out HRW.out
set_option maxHeartbeats 4000000 in
set_option maxRecDepth 100000 in
theorem comb3_any (a b : List (Int × Int)) (p q : Option Addr) (c d : Nat) (w : World) (h : SpsAt w p a) (h' : SpsAt w q b) :
    Calls Try.prog 54 #[.slice p a.length c, .slice q b.length d, .int .i64 3] w (SpsErr (minusR a b) w) := by
  have c1 := fun W (hW : Below w.heap.size w W) => rcheck_any a p c W (h.below hW)
  have c2 := fun W (hW : Below w.heap.size w W) => rcheck_any b q d W (h'.below hW)
  unfold ErrPost at c1 c2
  have e : minusR a b = joinedR (fun p => inS (down a) p && !inS (down b) p) (setsE a b) := rfl
  have es : setsE a b = if checkR a ≠ 0 then checkR a else checkR b := rfl
  unfold joinedR at e
  have hoka := check_set (l := a)
  have hokb := check_set (l := b)
  have HP := Lib.hid h; have HQ := Lib.hid h'
  generalize checkR a = ka at c1 es hoka
  generalize checkR b = kb at c2 es hokb
  generalize setsE a b = cc at e es
  generalize minusR a b = r at e
  have C1 := Lib.hid c1; have C2 := Lib.hid c2
  clear c1 c2 h h'
  by_cases ha : ka ≠ 0
  · rw [if_pos ha] at es
    subst es
    rw [if_pos ha] at e
    obtain ⟨t1, t2⟩ := neq0 ha
    have E := Lib.hid e
    clear e ha hoka hokb
    go_enter Try.func54, Try.ntmps54
    go_wp2_with fail
    refine (C1.out _ (Below.refl _ _)).mono ?_
    rintro e w1 ⟨rfl, hb⟩
    have HB1 := Lib.hid hb
    clear hb
    go_wp2_with fail
    go_ret2
    exact spsErr_err E.out HB1.out
  · obtain rfl : ka = 0 := Classical.not_not.1 ha
    rw [if_neg ha] at es
    rw [es] at e
    clear es
    by_cases hb0 : kb ≠ 0
    · rw [if_pos hb0] at e
      obtain ⟨t1, t2⟩ := neq0 hb0
      have E := Lib.hid e
      clear e hb0 hoka hokb ha
      go_enter Try.func54, Try.ntmps54
      go_wp2_with fail
      refine (C1.out _ (Below.refl _ _)).mono ?_
      rintro e w1 ⟨rfl, hb⟩
      have HB1 := Lib.hid hb
      clear hb
      go_wp2_with fail
      refine (C2.out _ HB1.out).mono ?_
      rintro e w2 ⟨rfl, hb⟩
      have HB2 := Lib.hid (below_next HB1.out hb)
      clear hb
      go_wp2_with fail
      go_ret2
      exact spsErr_err E.out HB2.out
    · obtain rfl : kb = 0 := Classical.not_not.1 hb0
      rw [if_neg hb0] at e
      obtain ⟨hva, hsa, hla⟩ := hoka rfl
      obtain ⟨hvb, hsb, hlb⟩ := hokb rfl
      have hua := up_down hva
      have hub := up_down hvb
      have m1 := fun W (hW : Below w.heap.size w W) => rmarks_any (down a) p c W (by rw [hua]; exact HP.out.below hW) (down_okay hva) (by rw [down_len]; omega)
      have m2 := fun W (hW : Below w.heap.size w W) => rmarks_any (down b) q d W (by rw [hub]; exact HQ.out.below hW) (down_okay hvb) (by rw [down_len]; omega)
      rw [down_len] at m1 m2
      generalize inS (down a) = fa at e m1
      generalize inS (down b) = fb at e m2
      have M1 := Lib.hid m1; have M2 := Lib.hid m2; have E := Lib.hid e
      clear e hoka hokb ha hb0 hva hvb hsa hsb hua hub m1 m2
      go_enter Try.func54, Try.ntmps54
      go_wp2_with fail
      refine (C1.out _ (Below.refl _ _)).mono ?_
      rintro e w1 ⟨rfl, hb⟩
      have HB1 := Lib.hid hb
      clear hb
      go_wp2_with fail
      refine (C2.out _ HB1.out).mono ?_
      rintro e w2 ⟨rfl, hb⟩
      have HB2 := Lib.hid (below_next HB1.out hb)
      clear hb
      go_wp2_with fail
      refine (M1.out _ HB2.out).mono ?_
      rintro e w3 ⟨rfl, hb⟩
      have HB3 := Lib.hid (below_next HB2.out hb)
      clear hb
      go_wp2_with fail
      refine (M2.out _ HB3.out).mono ?_
      rintro e w4 ⟨rfl, hb⟩
      have HB4 := Lib.hid (below_next HB3.out hb)
      clear hb
      obtain ⟨W1, W2, r1, r2, rb, rx, ry, rs⟩ := two_boxes w4 fa fb
      have HB5 := Lib.hid (below_next HB4.out rb); have HX := Lib.hid rx; have HY := Lib.hid ry; have HS := Lib.hid rs
      clear rb rx ry rs
      go_wp2_with fail
      obtain ⟨P, hP⟩ : ∃ P : Nat → Bool, P = fun p => fa p && !fb p := ⟨_, rfl⟩
      have hPp : ∀ j, P j = (fa j && !fb j) := fun j => by rw [hP]
      rw [← hP] at E
      have HPP := Lib.hid hPp
      have hs4 := HS.out
      have bs1 : w4.heap.size < W2.heap.size := by omega
      have bs2 : w4.heap.size + 1 < W2.heap.size := by omega
      have bs0 : w.heap.size ≤ W2.heap.size := HB5.out.size
      obtain ⟨bx, hbx⟩ : ∃ bx, bx = w4.heap.size := ⟨_, rfl⟩
      obtain ⟨by_, hby⟩ : ∃ by_, by_ = w4.heap.size + 1 := ⟨_, rfl⟩
      rw [← hby] at HY bs2 ⊢
      rw [← hbx] at HX bs1 ⊢
      obtain ⟨bo, hbo⟩ : ∃ bo, bo = W2.heap.size := ⟨_, rfl⟩
      have HM := Lib.hid (show CmI w (W2.alloc (.cells Try.zeroCells69 69)) bx by_ bo fa fb (fun j => decide (j < 0) && P j) from by
        have hbe : Below W2.heap.size W2 (W2.alloc (.cells Try.zeroCells69 69)) := (Below.refl _ _).alloc (Nat.le_refl _) _
        refine ⟨below_next HB5.out hbe, HX.out.below hbe, HY.out.below hbe, ?_⟩
        have := heap_alloc_new W2 (.cells Try.zeroCells69 69)
        rw [hbo, this, boolA_zero, show (fun j : Nat => decide (j < 0) && P j) = fun _ => false from by funext j; simp])
      have g1 : bx < bo := by omega
      have g2 : by_ < bo := by omega
      have g3 : w.heap.size ≤ bo := by omega
      rw [← hbo]
      clear hP hPp hbx hby hbo bs1 bs2 bs0 hs4 r1 r2 HX HY HS HB5
      go_loopg [12] 1024 (fun n1 i W => ∃ k : Nat, k + n1 = 1024 ∧ i = .int .i64 k ∧ CmI w W bx by_ bo fa fb (fun j => decide (j < k) && P j))
      case atStart => exact ⟨0, by omega, by go_num, HM.out⟩
      case round =>
        clear HM
        obtain ⟨k, hkn, rfl, hinv⟩ := hrel
        have HI := Lib.hid hinv
        clear hinv
        have k0 : (0 : Int) ≤ k := by omega
        by_cases hlt : k < 1024
        · obtain ⟨n', rfl⟩ : ∃ n', gk = n' + 1 := ⟨gk - 1, by omega⟩
          have i1 : (k : Int) < 1024 := by omega
          have x0 := HI.out.x k hlt
          have y0 := HI.out.y k hlt
          obtain ⟨o0, o1⟩ := HI.out.at_ hlt
          have hpk := HPP.out k
          have HN := Lib.hid (HI.out.set (k := k) (P := P) g1 g2 g3)
          have s1 : ¬ bx = bo := by omega
          have s2 : ¬ by_ = bo := by omega
          cases hfa : fa k <;> cases hfb : fb k
          all_goals
            rw [hfa] at x0 hpk
            rw [hfb] at y0 hpk
            have HPK := Lib.hid hpk
            clear hpk hfa hfb
            go_wp2_with fail
            go_roundg n'
            case measure => omega
            case rel => exact ⟨k + 1, by omega, by go_num, by have := HN.out; rw [HPK.out] at this; exact this⟩
        · obtain rfl : k = 1024 := by omega
          have ho := HI.out.out
          rw [boolA_congr (f := fun j => decide (j < 1024) && P j) (g := P) (fun i hi => by simp [hi])] at ho
          have HO := Lib.hid ho; have HB := Lib.hid HI.out.below
          have CS := Lib.hid (rset_any P wr)
          have i1 : ¬ ((1024 : Nat) : Int) < 1024 := by omega
          clear ho HI HPP
          go_wp2_with fail
          refine wp_load_boolA rfl rfl HO.out ?_
          go_wp2_with fail
          refine CS.out.mono ?_
          rintro e w5 ⟨v, rfl, hb, hrow⟩
          have HB5 := Lib.hid (below_next HB.out hb)
          have HRW := Lib.hid (ownsRow_base hrow HB.out.size)
          clear hb hrow
          go_wp2_with fail
          go_ret2
          exact spsErr_mk E.out HB5.out HRW.out
set_option maxRecDepth 100000 in
theorem rUnion_any (a b : List (Int × Int)) (p q : Option Addr) (c d : Nat) (w : World) (h : SpsAt w p a) (h' : SpsAt w q b) :
    Calls Try.prog 19 #[.slice p a.length c, .slice q b.length d] w (SpsErr (unionR a b) w) := by
  have C := Lib.hid (comb1_any a b p q c d w h h')
  clear h h'
  go_enter Try.func19, Try.ntmps19
  go_wp2_with fail
  refine C.out.mono ?_
  rintro e w1 ⟨v, rfl, hb, ho⟩
  have HB := Lib.hid hb; have HO := Lib.hid ho
  clear hb ho
  go_wp2_with fail
  go_ret2
  exact ⟨v, rfl, HB.out, HO.out⟩
set_option maxRecDepth 100000 in
theorem rMeet_any (a b : List (Int × Int)) (p q : Option Addr) (c d : Nat) (w : World) (h : SpsAt w p a) (h' : SpsAt w q b) :
    Calls Try.prog 21 #[.slice p a.length c, .slice q b.length d] w (SpsErr (meetR a b) w) := by
  have C := Lib.hid (comb2_any a b p q c d w h h')
  clear h h'
  go_enter Try.func21, Try.ntmps21
  go_wp2_with fail
  refine C.out.mono ?_
  rintro e w1 ⟨v, rfl, hb, ho⟩
  have HB := Lib.hid hb; have HO := Lib.hid ho
  clear hb ho
  go_wp2_with fail
  go_ret2
  exact ⟨v, rfl, HB.out, HO.out⟩
set_option maxRecDepth 100000 in
theorem rMinus_any (a b : List (Int × Int)) (p q : Option Addr) (c d : Nat) (w : World) (h : SpsAt w p a) (h' : SpsAt w q b) :
    Calls Try.prog 23 #[.slice p a.length c, .slice q b.length d] w (SpsErr (minusR a b) w) := by
  have C := Lib.hid (comb3_any a b p q c d w h h')
  clear h h'
  go_enter Try.func23, Try.ntmps23
  go_wp2_with fail
  refine C.out.mono ?_
  rintro e w1 ⟨v, rfl, hb, ho⟩
  have HB := Lib.hid hb; have HO := Lib.hid ho
  clear hb ho
  go_wp2_with fail
  go_ret2
  exact ⟨v, rfl, HB.out, HO.out⟩
set_option maxHeartbeats 2000000 in
set_option maxRecDepth 100000 in
theorem asked_any (l : List (Int × Int)) (p : Option Addr) (c : Nat) (a b : Int) (w : World) (h : SpsAt w p l) (hf : Fits (a, b)) :
    Calls Try.prog 57 #[.slice p l.length c, .agg #[.int .i64 a, .int .i64 b]] w (ErrPost (withR l (a, b)) w) := by
  have ck := fun W (hW : Below w.heap.size w W) => rcheck_any l p c W (h.below hW)
  have cv := fun W => rvalid_any a b W hf
  have e : withR l (a, b) = if checkR l ≠ 0 then checkR l else if validR (a, b) then 0 else 7 := rfl
  unfold ErrPost at ck
  unfold BoolPost at cv
  generalize checkR l = k at ck e
  generalize withR l (a, b) = r at e
  have CK := Lib.hid ck
  have hbe : Below w.heap.size w (w.alloc (.cells #[.int .i64 a, .int .i64 b] 31)) := (Below.refl _ _).alloc (Nat.le_refl _) _
  have HBE := Lib.hid hbe
  have HBX := Lib.hid (heap_alloc_new w (.cells #[.int .i64 a, .int .i64 b] 31))
  clear ck h hbe
  by_cases hk : k ≠ 0
  · rw [if_pos hk] at e
    obtain ⟨t1, t2⟩ := neq0 hk
    have E := Lib.hid e
    clear e hk cv
    go_enter Try.func57, Try.ntmps57
    go_wp2_with fail
    refine (CK.out _ (by first | exact Below.refl _ _ | exact HBE.out)).mono ?_
    rintro e w1 ⟨rfl, hb⟩
    have HB1 := Lib.hid hb
    clear hb
    go_wp2_with fail
    go_ret
    exact errPost_mk E.out (by first | exact HB1.out | exact boxB HB1.out)
  · obtain rfl : k = 0 := Classical.not_not.1 hk
    rw [if_neg hk] at e
    cases hv : validR (a, b)
    all_goals
      rw [hv] at e cv
      have E := Lib.hid e; have CV := Lib.hid cv
      clear e hv
      go_enter Try.func57, Try.ntmps57
      go_wp2_with fail
      refine (CK.out _ HBE.out).mono ?_
      rintro e w1 ⟨rfl, hb⟩
      have hq := (hb.block _ (Array.getElem?_eq_some_iff.1 HBX.out).1).trans HBX.out
      have q0 := row_cell (i := 0) (v := .int .i64 a) hq rfl
      have q1 := row_cell (i := 1) (v := .int .i64 b) hq rfl
      have HB1 := Lib.hid (boxB hb)
      clear hb hq
      go_wp2_with fail
      refine (CV.out _).mono ?_
      rintro e w2 ⟨rfl, hb⟩
      have HB2 := Lib.hid (below_next HB1.out hb)
      clear hb
      go_wp2_with fail
      go_ret
      exact errPost_mk E.out HB2.out
theorem check_one {x : Int × Int} (h : validR x = true) : checkR [x] = 0 := by
  unfold checkR listR gapsR
  simp [h]
set_option maxHeartbeats 2000000 in
set_option maxRecDepth 100000 in
theorem rNot_any (l : List (Int × Int)) (p : Option Addr) (c : Nat) (a b : Int) (w : World) (h : SpsAt w p l) (hf : Fits (a, b)) :
    Calls Try.prog 25 #[.slice p l.length c, .agg #[.int .i64 a, .int .i64 b]] w (SpsErr (notR l (a, b)) w) := by
  have ck := fun W (hW : Below w.heap.size w W) => asked_any l p c a b W (h.below hW) hf
  have e : notR l (a, b) = if withR l (a, b) ≠ 0 then ([], withR l (a, b)) else (setF (fun p => inS (down [(a, b)]) p && !inS (down l) p) 1024, 0) := rfl
  have hok := withR_ok (l := l) (x := (a, b))
  have em : setsE [(a, b)] l = 0 → minusR [(a, b)] l = (setF (fun p => inS (down [(a, b)]) p && !inS (down l) p) 1024, 0) := fun h => by unfold minusR joinedR; rw [h]; rfl
  unfold ErrPost at ck
  generalize withR l (a, b) = k at ck e hok
  generalize notR l (a, b) = r at e
  have hbe : Below w.heap.size w (w.alloc (.cells #[.int .i64 a, .int .i64 b] 31)) := (Below.refl _ _).alloc (Nat.le_refl _) _
  have HBE := Lib.hid hbe
  have HBX := Lib.hid (heap_alloc_new w (.cells #[.int .i64 a, .int .i64 b] 31))
  have CK := Lib.hid ck; have HP := Lib.hid h
  clear ck h hbe
  by_cases hk : k ≠ 0
  · rw [if_pos hk] at e
    obtain ⟨t1, t2⟩ := neq0 hk
    have E := Lib.hid e
    clear e hk hok em
    go_enter Try.func25, Try.ntmps25
    go_wp2_with fail
    refine (CK.out _ HBE.out).mono ?_
    rintro e w1 ⟨rfl, hb⟩
    have hq := (hb.block _ (Array.getElem?_eq_some_iff.1 HBX.out).1).trans HBX.out
    have q0 := row_cell (i := 0) (v := .int .i64 a) hq rfl
    have q1 := row_cell (i := 1) (v := .int .i64 b) hq rfl
    have HB1 := Lib.hid (boxB hb)
    clear hb hq
    go_wp2_with fail
    go_ret2
    exact spsErr_err E.out HB1.out
  · obtain rfl : k = 0 := Classical.not_not.1 hk
    rw [if_neg hk] at e
    obtain ⟨h1, h2⟩ := hok rfl
    have em' := em (by unfold setsE; rw [check_one h2]; simpa using h1)
    rw [← e] at em'
    have cm := fun W (hW : Below w.heap.size w W) => rMinus_any [(a, b)] l (some ⟨W.heap.size, 0, none⟩) p 1 c (W.alloc (.cells #[.int .i64 a, .int .i64 b] 31)) (spsAt_one W a b 31 hf) (HP.out.below (hW.trans (((Below.refl _ _).alloc (Nat.le_refl _) _).mono hW.size)))
    rw [em', show ([(a, b)] : List (Int × Int)).length = 1 from rfl] at cm
    unfold SpsErr at cm
    have CM := Lib.hid cm
    clear e hk hok em em' h1 h2 cm
    go_enter Try.func25, Try.ntmps25
    go_wp2_with fail
    refine (CK.out _ HBE.out).mono ?_
    rintro e w1 ⟨rfl, hb⟩
    have hq := (hb.block _ (Array.getElem?_eq_some_iff.1 HBX.out).1).trans HBX.out
    have q0 := row_cell (i := 0) (v := .int .i64 a) hq rfl
    have q1 := row_cell (i := 1) (v := .int .i64 b) hq rfl
    have HB1 := Lib.hid (boxB hb)
    clear hb hq
    go_wp2_with fail
    refine (CM.out _ HB1.out).mono ?_
    rintro e w2 ⟨v, rfl, hb, ho⟩
    have HB2 := Lib.hid (below_next HB1.out (boxB hb))
    have HO := Lib.hid (ownsRow_base ho (show w.heap.size ≤ _ from by have := HB1.out.size; simp; omega))
    clear hb ho
    go_wp2_with fail
    go_ret2
    exact ⟨v, rfl, HB2.out, HO.out⟩
end Go.Proofs.Ytnhbilcpdombfaa
