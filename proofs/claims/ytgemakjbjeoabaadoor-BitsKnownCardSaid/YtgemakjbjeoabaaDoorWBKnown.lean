/- BitsKnown: the walk. -/
import Derived.Test.YtgemakjbjeoabaaDoorBtSameRuns
import Derived.Test.YtgemakjbjeoabaaDoorBtMorgan
namespace Go.Proofs.YtgemakjbjeoabaaDoor
open Go.RowKit Go.Shelf

theorem row31 {W : World} {B : Nat} {x : Nat} (hx : x < 2 ^ 64) (h : W.heap[B]? = some (.cells #[.int .u64 (x : Int)] 58 (0, 0))) : WordsAt W (some ⟨B, 0, none⟩) [x] :=
  words_of_row (ws := [x]) h (by simp [maxLen]) (by simpa using hx)
theorem t_kS (W : World) (q : Option Addr) (h : WordsAt W q [531]) (he : BEnv W) : Calls Tryd.prog 26 #[.agg #[.int .i64 10, .slice q 1 1], .int .i64 2, .bool true] W fun e w' => e = .returned (.tuple #[.int .i64 4, .int .i64 0]) ∧ Below W.heap.size W w' :=
  (select_any 10 q 1 [531] 2 true W h (by decide) he).mono fun _ _ ⟨he, hb⟩ => ⟨by rw [he, show selectR 10 [531] 2 true = (4, 0) by decide +kernel], hb⟩
theorem t_kN (W : World) (q : Option Addr) (h : WordsAt W q [531]) (he : BEnv W) : Calls Tryd.prog 28 #[.agg #[.int .i64 10, .slice q 1 1], .int .i64 2, .bool true] W fun e w' => e = .returned (.tuple #[.int .i64 4, .int .i64 0]) ∧ Below W.heap.size W w' :=
  (Next_any 10 q 1 [531] 2 true W h he).mono fun _ _ ⟨he, hb⟩ => ⟨by rw [he, show nextR 10 [531] 2 true = (4, 0) by decide +kernel], hb⟩
theorem t_kL (W : World) (q : Option Addr) (h : WordsAt W q [531]) (he : BEnv W) : Calls Tryd.prog 30 #[.agg #[.int .i64 10, .slice q 1 1], .int .i64 4, .bool true] W fun e w' => e = .returned (.tuple #[.int .i64 1, .int .i64 0]) ∧ Below W.heap.size W w' :=
  (last_any 10 q 1 [531] 4 true W h).mono fun _ _ ⟨he, hb⟩ => ⟨by rw [he, show lastR 10 [531] 4 true = (1, 0) by decide +kernel], hb⟩
theorem t_kM (W : World) (q : Option Addr) (h : WordsAt W q [531]) (he : BEnv W) : Calls Tryd.prog 28 #[.agg #[.int .i64 10, .slice q 1 1], .int .i64 10, .bool true] W fun e w' => e = .returned (.tuple #[.int .i64 0, .int .i64 4]) ∧ Below W.heap.size W w' :=
  (Next_any 10 q 1 [531] 10 true W h he).mono fun _ _ ⟨he, hb⟩ => ⟨by rw [he, show nextR 10 [531] 10 true = (0, 4) by decide +kernel], hb⟩
theorem t_kF (W : World) (q : Option Addr) (h : WordsAt W q [531]) (he : BEnv W) : Calls Tryd.prog 35 #[.agg #[.int .i64 10, .slice q 1 1], .int .i64 2, .int .i64 0] W fun e w' => e = .returned (.tuple #[.int .i64 2, .int .i64 0]) ∧ Below W.heap.size W w' :=
  (fit_any 10 q 1 [531] 2 0 W h he).mono fun _ _ ⟨he, hb⟩ => ⟨by rw [he, show fitR 10 [531] 2 0 = (2, 0) by decide +kernel], hb⟩
theorem t_kG (W : World) (q : Option Addr) (h : WordsAt W q [531]) (he : BEnv W) : Calls Tryd.prog 35 #[.agg #[.int .i64 10, .slice q 1 1], .int .i64 2, .int .i64 3] W fun e w' => e = .returned (.tuple #[.int .i64 5, .int .i64 0]) ∧ Below W.heap.size W w' :=
  (fit_any 10 q 1 [531] 2 3 W h he).mono fun _ _ ⟨he, hb⟩ => ⟨by rw [he, show fitR 10 [531] 2 3 = (5, 0) by decide +kernel], hb⟩
theorem t_kH (W : World) (q : Option Addr) (h : WordsAt W q [531]) (he : BEnv W) : Calls Tryd.prog 35 #[.agg #[.int .i64 10, .slice q 1 1], .int .i64 5, .int .i64 0] W fun e w' => e = .returned (.tuple #[.int .i64 0, .int .i64 4]) ∧ Below W.heap.size W w' :=
  (fit_any 10 q 1 [531] 5 0 W h he).mono fun _ _ ⟨he, hb⟩ => ⟨by rw [he, show fitR 10 [531] 5 0 = (0, 4) by decide +kernel], hb⟩
theorem t_kB (W : World) (q : Option Addr) (h : WordsAt W q [531]) (he : BEnv W) : Calls Tryd.prog 39 #[.agg #[.int .i64 10, .slice q 1 1], .int .i64 1] W fun e w' => e = .returned (.tuple #[.int .i64 2, .int .i64 0]) ∧ Below W.heap.size W w' :=
  (block_any 10 q 1 [531] 1 W h).mono fun _ _ ⟨he, hb⟩ => ⟨by rw [he, show blockR 10 [531] 1 = (2, 0) by decide +kernel], hb⟩
theorem t_kR (W : World) (q : Option Addr) (h : WordsAt W q [531]) (he : BEnv W) : Calls Tryd.prog 32 #[.agg #[.int .i64 10, .slice q 1 1], .bool false] W fun e w' => ∃ v, e = .returned (.tuple #[v, .int .i64 0]) ∧ Below W.heap.size W w' ∧ w'.ownsRow W.heap.size 53 2 v [(2, 4), (5, 9)].length (runC [(2, 4), (5, 9)]) := by
  have h2 := Runs_any 10 q 1 [531] false W h he
  rw [show runsR 10 [531] false = ([(2, 4), (5, 9)], 0) by decide +kernel] at h2
  exact h2.mono fun _ _ h => h
theorem t_kD (W : World) (q q' : Option Addr) (h : WordsAt W q [531]) (h' : WordsAt W q' [31]) : Calls Tryd.prog 45 #[.agg #[.int .i64 10, .slice q 1 1], .agg #[.int .i64 10, .slice q' 1 1]] W fun e w' => ∃ p cap, e = .returned (.tuple #[.agg #[.int .i64 10, .slice p 1 cap], .int .i64 0]) ∧ WordsAt w' p [512] ∧ Below W.heap.size W w' := by
  have h2 := less_any 10 q 1 [531] 10 q' 1 [31] W h h'
  rw [show joinR (fun a b => a && !b) 10 [531] 10 [31] = ((10, [512]), 0) by decide +kernel] at h2
  refine h2.mono fun e w' hh => ?_
  obtain ⟨p, cap, h3, h4, _, h6⟩ := hh
  exact ⟨p, cap, h3, h4, h6⟩
set_option maxHeartbeats 8000000 in
set_option maxRecDepth 100000 in
theorem known_walk (w : World) (he : BEnv w) : Calls Tryd.prog 12 #[] w (TruePost w) := by
  have HE := Lib.hid he
  have kS := Lib.hid t_kS
  have kN := Lib.hid t_kN
  have kL := Lib.hid t_kL
  have kM := Lib.hid t_kM
  have kF := Lib.hid t_kF
  have kG := Lib.hid t_kG
  have kH := Lib.hid t_kH
  have kB := Lib.hid t_kB
  have kR := Lib.hid t_kR
  have kD := Lib.hid t_kD
  have CA := Lib.hid (fun W (hW : Below w.heap.size w W) => awake_any W (he.below hW))
  have HB0 := Lib.hid (Below.refl w.heap.size w)
  clear he
  go_enter Tryd.func12, Tryd.ntmps12
  go_wp2_with fail
  refine (ten_any _).mono ?_
  rintro e w1 ⟨p1, rfl, hwa, hb⟩
  have HB1 := Lib.hid (HB0.out.trans (hb.mono HB0.out.size)); have HW := Lib.hid hwa
  clear hb hwa HB0
  go_wp2_with fail
  refine (kS.out _ _ HW.out (HE.out.below HB1.out)).mono ?_
  rintro e w2 ⟨rfl, hb⟩
  have HB2 := Lib.hid (HB1.out.trans (hb.mono HB1.out.size))
  clear hb HW HB1 kS
  go_wp2_with fail
  refine (ten_any _).mono ?_
  rintro e w3 ⟨p3, rfl, hwa, hb⟩
  have HB3 := Lib.hid (HB2.out.trans (hb.mono HB2.out.size)); have HW := Lib.hid hwa
  clear hb hwa HB2
  go_wp2_with fail
  refine (kN.out _ _ HW.out (HE.out.below HB3.out)).mono ?_
  rintro e w4 ⟨rfl, hb⟩
  have HB4 := Lib.hid (HB3.out.trans (hb.mono HB3.out.size))
  clear hb HW HB3 kN
  go_wp2_with fail
  refine (ten_any _).mono ?_
  rintro e w5 ⟨p5, rfl, hwa, hb⟩
  have HB5 := Lib.hid (HB4.out.trans (hb.mono HB4.out.size)); have HW := Lib.hid hwa
  clear hb hwa HB4
  go_wp2_with fail
  refine (kL.out _ _ HW.out (HE.out.below HB5.out)).mono ?_
  rintro e w6 ⟨rfl, hb⟩
  have HB6 := Lib.hid (HB5.out.trans (hb.mono HB5.out.size))
  clear hb HW HB5 kL
  go_wp2_with fail
  refine (ten_any _).mono ?_
  rintro e w7 ⟨p7, rfl, hwa, hb⟩
  have HB7 := Lib.hid (HB6.out.trans (hb.mono HB6.out.size)); have HW := Lib.hid hwa
  clear hb hwa HB6
  go_wp2_with fail
  refine (kM.out _ _ HW.out (HE.out.below HB7.out)).mono ?_
  rintro e w8 ⟨rfl, hb⟩
  have HB8 := Lib.hid (HB7.out.trans (hb.mono HB7.out.size))
  clear hb HW HB7 kM
  go_wp2_with fail
  refine (ten_any _).mono ?_
  rintro e w9 ⟨p9, rfl, hwa, hb⟩
  have HB9 := Lib.hid (HB8.out.trans (hb.mono HB8.out.size)); have HW := Lib.hid hwa
  clear hb hwa HB8
  go_wp2_with fail
  refine (kR.out _ _ HW.out (HE.out.below HB9.out)).mono ?_
  rintro e w10 ⟨v, rfl, hb, ho⟩
  obtain ⟨pr, cr, rfl, hr⟩ := own_runsAt ho
  have HR := Lib.hid hr; clear hr ho
  have HB10 := Lib.hid (HB9.out.trans (hb.mono HB9.out.size))
  clear hb HW HB9 kR
  go_wp2_with fail
  have AL := fun o => ((Below.refl w10.heap.size w10).alloc (Nat.le_refl _) o)
  refine (sameRuns_any [(2, 4), (5, 9)] _ _ _ _ _ (by decide) (HR.out.below (AL _)) (runsAt_two (a := 2) (b := 4) (c := 5) (d := 9) (heap_alloc_new _ _))).mono ?_
  rintro e w11 ⟨rfl, hb⟩
  have HB11 := Lib.hid (HB10.out.trans (((AL _).trans (hb.mono (AL _).size)).mono HB10.out.size))
  clear hb AL HR HB10
  go_wp2_with fail
  refine (ten_any _).mono ?_
  rintro e w12 ⟨p12, rfl, hwa, hb⟩
  have HB12 := Lib.hid (HB11.out.trans (hb.mono HB11.out.size)); have HW := Lib.hid hwa
  clear hb hwa HB11
  go_wp2_with fail
  refine (kF.out _ _ HW.out (HE.out.below HB12.out)).mono ?_
  rintro e w13 ⟨rfl, hb⟩
  have HB13 := Lib.hid (HB12.out.trans (hb.mono HB12.out.size))
  clear hb HW HB12 kF
  go_wp2_with fail
  refine (ten_any _).mono ?_
  rintro e w14 ⟨p14, rfl, hwa, hb⟩
  have HB14 := Lib.hid (HB13.out.trans (hb.mono HB13.out.size)); have HW := Lib.hid hwa
  clear hb hwa HB13
  go_wp2_with fail
  refine (kG.out _ _ HW.out (HE.out.below HB14.out)).mono ?_
  rintro e w15 ⟨rfl, hb⟩
  have HB15 := Lib.hid (HB14.out.trans (hb.mono HB14.out.size))
  clear hb HW HB14 kG
  go_wp2_with fail
  refine (ten_any _).mono ?_
  rintro e w16 ⟨p16, rfl, hwa, hb⟩
  have HB16 := Lib.hid (HB15.out.trans (hb.mono HB15.out.size)); have HW := Lib.hid hwa
  clear hb hwa HB15
  go_wp2_with fail
  refine (kH.out _ _ HW.out (HE.out.below HB16.out)).mono ?_
  rintro e w17 ⟨rfl, hb⟩
  have HB17 := Lib.hid (HB16.out.trans (hb.mono HB16.out.size))
  clear hb HW HB16 kH
  go_wp2_with fail
  refine (ten_any _).mono ?_
  rintro e w18 ⟨p18, rfl, hwa, hb⟩
  have HB18 := Lib.hid (HB17.out.trans (hb.mono HB17.out.size)); have HW := Lib.hid hwa
  clear hb hwa HB17
  go_wp2_with fail
  refine (kB.out _ _ HW.out (HE.out.below HB18.out)).mono ?_
  rintro e w19 ⟨rfl, hb⟩
  have HB19 := Lib.hid (HB18.out.trans (hb.mono HB18.out.size))
  clear hb HW HB18 kB
  go_wp2_with fail
  refine (ten_any _).mono ?_
  rintro e w20 ⟨p20, rfl, hwa, hb⟩
  have HB20 := Lib.hid (HB19.out.trans (hb.mono HB19.out.size)); have HW := Lib.hid hwa
  clear hb hwa HB19
  go_wp2_with fail
  have AL := fun o => ((Below.refl w20.heap.size w20).alloc (Nat.le_refl _) o)
  refine (kD.out _ _ _ (HW.out.below (AL _)) (row31 (x := 31) (by decide) (heap_alloc_new _ _))).mono ?_
  rintro e w21 ⟨pd, cd, rfl, hwa, hb⟩
  have HB21 := Lib.hid (HB20.out.trans (((AL _).trans (hb.mono (AL _).size)).mono HB20.out.size)); have HD := Lib.hid hwa
  clear hb hwa AL HW HB20
  go_wp2_with fail
  have AL := fun o1 o2 => (alloc2 w21 o1 o2)
  refine (same_any 10 [512] _ _ _ _ _ (HD.out.below (AL _ _).1) (row31 (x := 512) (by decide) (AL _ _).2.2.2)).mono ?_
  rintro e w22 ⟨rfl, hb⟩
  have HB22 := Lib.hid (HB21.out.trans (((AL _ _).1.trans (hb.mono (AL _ _).1.size)).mono HB21.out.size))
  clear hb AL HD HB21
  go_wp2_with fail
  refine (CA.out _ HB22.out).mono ?_
  rintro e w23 ⟨rfl, hb⟩
  have HB23 := Lib.hid (HB22.out.trans (hb.mono HB22.out.size))
  clear hb
  go_wp2_with fail
  go_ret
  exact ⟨rfl, HB23.out⟩
end Go.Proofs.YtgemakjbjeoabaaDoor
