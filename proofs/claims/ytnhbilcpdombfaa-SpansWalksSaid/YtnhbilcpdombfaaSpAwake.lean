/- The law's own example, one, long, awake. -/
import Derived.Test.YtnhbilcpdombfaaSpLPieces
import Derived.Test.YtnhbilcpdombfaaSpNot
import Derived.Test.YtnhbilcpdombfaaSpRef
namespace Go.Proofs.Ytnhbilcpdombfaa
open Go.RowKit

theorem made_row (w : World) (s : List (Nat × Nat)) (cur : Array Value) (hc : cur.toList = SpC s) (hl : s.length ≤ 100) :
    (w.alloc (.cells cur 31)).ownsRow w.heap.size 31 2 (.slice (some ⟨w.heap.size, 0, none⟩) s.length s.length) s.length (SpC s) := by
  have hz : cur.size = s.length * 2 := by rw [← Array.length_toList, hc, SpC_len]
  refine ⟨SpC_len s, .inr ⟨w.heap.size, s.length, cur, rfl, Nat.le_refl _, heap_alloc_new w _, Nat.le_refl _, by unfold maxLen; omega, hz, ?_⟩⟩
  rw [hc, ← SpC_len, List.take_length]
theorem made_sps (w : World) (s : List (Nat × Nat)) (cur : Array Value) (hc : cur.toList = SpC s) (hl : s.length ≤ 100) (ho : Okay s) : SpsAt (w.alloc (.cells cur 31)) (some ⟨w.heap.size, 0, none⟩) (up s) := by
  obtain ⟨q, c, e, h⟩ := own_sps (made_row w s cur hc hl) ho (by omega)
  cases e; exact h
set_option maxRecDepth 100000 in
theorem example_any (w : World) : Calls Try.prog 45 #[] w (SpsPost [(4, 4), (16, 20)] w) := by
  go_enter Try.func45, Try.ntmps45
  go_wp2_with fail
  go_ret
  exact ⟨_, rfl, (Below.refl _ _).alloc (Nat.le_refl _) _, made_row w [(4, 4), (16, 20)] _ rfl (by decide)⟩
set_option maxRecDepth 100000 in
theorem one_any (a b : Nat) (w : World) : Calls Try.prog 46 #[.int .i64 (a : Int), .int .i64 (b : Int)] w (SpsPost [(a, b)] w) := by
  go_enter Try.func46, Try.ntmps46
  go_wp2_with fail
  go_ret
  exact ⟨_, rfl, (Below.refl _ _).alloc (Nat.le_refl _) _, made_row w [(a, b)] _ rfl (by simp)⟩
set_option maxRecDepth 100000 in
theorem long_any (n : Nat) (p : Option Addr) (cap : Nat) (w : World) : Calls Try.prog 11 #[.slice p n cap] w fun e w' => e = .returned (.bool (decide (2100 < (n : Int)))) ∧ w' = w := by
  go_enter Try.func11, Try.ntmps11
  go_wp2_with fail
  go_ret
  exact ⟨rfl, rfl⟩
theorem ex_of : ofR (up [(6, 4), (2, 3), (5, 1)]) = ([(2, 8)], 0) := by decide +kernel
theorem ex_meet : meetR (up [(4, 4), (16, 20)]) (up [(6, 12)]) = ([(6, 2), (16, 2)], 0) := by decide +kernel
theorem ex_not : notR (up [(4, 4), (16, 20)]) (0, 16) = ([(0, 4), (8, 8)], 0) := by decide +kernel
theorem ex_count : countR (up [(4, 4), (16, 20)]) = (24, 0) := by decide +kernel
theorem ex_first : firstR (up [(4, 4), (16, 20)]) 4 32 = (32, 0) := by decide +kernel
theorem ex_check : checkR (up [(4, 4), (16, 20)]) = 0 := by decide +kernel
theorem ex_pieces : lpR 10 (piecesL 16 [(4, 4), (16, 20)]) = ([(4, 4), (16, 16), (32, 4)], true) := by decide +kernel
theorem okay_of {s : List (Nat × Nat)} (h : s.all (fun x => decide (1 ≤ x.2) && decide (x.1 + x.2 ≤ 1024)) = true) : Okay s := fun x hx => by
  have := List.all_eq_true.1 h x hx
  simpa using this
theorem c_of (p : Option Addr) (c : Nat) (w : World) (h : SpsAt w p (up [(6, 4), (2, 3), (5, 1)])) : Calls Try.prog 13 #[.slice p 3 c] w (SpsErr ([(2, 8)], 0) w) := by
  have := of_any _ p c w h
  rw [ex_of] at this; exact this
theorem c_meet (p q : Option Addr) (c d : Nat) (w : World) (h : SpsAt w p (up [(4, 4), (16, 20)])) (h' : SpsAt w q (up [(6, 12)])) : Calls Try.prog 20 #[.slice p 2 c, .slice q 1 d] w (SpsErr ([(6, 2), (16, 2)], 0) w) := by
  have := meet_any _ _ p q c d w h h'
  rw [ex_meet] at this; exact this
theorem c_not (p : Option Addr) (c : Nat) (w : World) (h : SpsAt w p (up [(4, 4), (16, 20)])) : Calls Try.prog 24 #[.slice p 2 c, .agg #[.int .i64 0, .int .i64 16]] w (SpsErr ([(0, 4), (8, 8)], 0) w) := by
  have := not_any _ p c 0 16 w h (by unfold Fits; simp)
  rw [ex_not] at this; exact this
theorem c_count (p : Option Addr) (c : Nat) (w : World) (h : SpsAt w p (up [(4, 4), (16, 20)])) : Calls Try.prog 30 #[.slice p 2 c] w (IntErr (24, 0) w) := by
  have := count_any _ p c w h
  rw [ex_count] at this; exact this
theorem c_first (p : Option Addr) (c : Nat) (w : World) (h : SpsAt w p (up [(4, 4), (16, 20)])) : Calls Try.prog 32 #[.slice p 2 c, .int .i64 4, .int .i64 32] w (IntErr (32, 0) w) := by
  have := first_any _ p c 4 32 w h
  rw [ex_first] at this; exact this
theorem c_pieces (p : Option Addr) (c : Nat) (w : World) (h : SpsAt w p (up [(4, 4), (16, 20)])) : Calls Try.prog 37 #[.slice p 2 c, .int .i64 16] w (PiecesPost [(4, 4), (16, 20)] 16 w) :=
  pieces_good [(4, 4), (16, 20)] p c 16 w h (by decide) (by decide) (by decide) ex_check
theorem ex_set : IsSet 1024 [(4, 4), (16, 20)] := (check_set ex_check).2.1
theorem c_lp (Bs Bz : Nat) (v : Value) (w0 w : World) (hb : w.heap[Bs]? = some (.cells #[v] 22 (0, 0))) (hz : w.heap[Bz]? = some (.cells #[.int .i64 ((16 : Nat) : Int)] 3 (0, 0))) (ho : w.ownsRow w0.heap.size 31 2 v [(4, 4), (16, 20)].length (SpC [(4, 4), (16, 20)])) :
    Calls Try.prog 39 #[.func (.func 68) #[] #[.pointer (some ⟨Bs, 0, none⟩), .pointer (some ⟨Bz, 0, none⟩)], .int .i64 10] w (LpPost ([(4, 4), (16, 16), (32, 4)], true) w) := by
  obtain ⟨q, c, rfl, h⟩ := own_sps ho (okay_of (by decide)) (by decide)
  have := callsIn_wide.1 (lpieces_in 3 Bs Bz 16 10 c q [(4, 4), (16, 20)] w (Nat.le_refl _) ex_set (by decide) (by decide) (by decide) hb hz h)
  rw [ex_pieces] at this; exact this
theorem c_same (s : List (Nat × Nat)) (n : Nat) (hn : n = s.length) (p q : Option Addr) (c d : Nat) (w : World) (h : SpsAt w p (up s)) (h' : SpsAt w q (up s)) : Calls Try.prog 17 #[.slice p n c, .slice q n d] w (TruePost w) := by
  have := same_any _ p q c d w h h'
  rw [up_len, ← hn] at this; exact this
set_option maxHeartbeats 4000000 in
set_option maxRecDepth 100000 in
theorem awake_any (w : World) : Calls Try.prog 12 #[] w (TruePost w) := by
  go_enter Try.func12, Try.ntmps12
  go_wp2_with fail
  refine (c_of _ _ _ (made_sps w [(6, 4), (2, 3), (5, 1)] _ rfl (by decide) (okay_of (by decide)))).mono ?_
  rintro e w1 ⟨v, rfl, hb, ho⟩
  obtain ⟨qa, cqa, rfl, hs⟩ := own_sps (s := [(2, 8)]) ho (okay_of (by decide)) (by decide)
  replace hb := boxB hb
  have HB := Lib.hid hb
  have HA := Lib.hid hs
  clear hb ho hs
  go_wp2_with fail
  refine (example_any _).mono ?_
  rintro e w2 ⟨v, rfl, hb, ho⟩
  obtain ⟨qe1, cqe1, rfl, hs⟩ := own_sps (s := [(4, 4), (16, 20)]) ho (okay_of (by decide)) (by decide)
  have HB := Lib.hid (below_next HB.out hb)
  have HA := Lib.hid (HA.out.below hb)
  have HE := Lib.hid hs
  clear hb ho hs
  go_wp2_with fail
  refine (one_any 6 12 _).mono ?_
  rintro e w3 ⟨v, rfl, hb, ho⟩
  obtain ⟨qo1, cqo1, rfl, hs⟩ := own_sps (s := [(6, 12)]) ho (okay_of (by decide)) (by decide)
  have HB := Lib.hid (below_next HB.out hb)
  have HA := Lib.hid (HA.out.below hb)
  have HE := Lib.hid (HE.out.below hb)
  have HO := Lib.hid hs
  clear hb ho hs
  go_wp2_with fail
  refine (c_meet _ _ _ _ _ HE.out HO.out).mono ?_
  rintro e w4 ⟨v, rfl, hb, ho⟩
  obtain ⟨qm, cqm, rfl, hs⟩ := own_sps (s := [(6, 2), (16, 2)]) ho (okay_of (by decide)) (by decide)
  have HB := Lib.hid (below_next HB.out hb)
  have HA := Lib.hid (HA.out.below hb)
  have HM := Lib.hid hs
  clear hb ho hs
  go_wp2_with fail
  refine (example_any _).mono ?_
  rintro e w5 ⟨v, rfl, hb, ho⟩
  obtain ⟨qe2, cqe2, rfl, hs⟩ := own_sps (s := [(4, 4), (16, 20)]) ho (okay_of (by decide)) (by decide)
  have HB := Lib.hid (below_next HB.out hb)
  have HA := Lib.hid (HA.out.below hb)
  have HM := Lib.hid (HM.out.below hb)
  have HE := Lib.hid hs
  clear hb ho hs
  go_wp2_with fail
  refine (c_not _ _ _ HE.out).mono ?_
  rintro e w6 ⟨v, rfl, hb, ho⟩
  obtain ⟨qn, cqn, rfl, hs⟩ := own_sps (s := [(0, 4), (8, 8)]) ho (okay_of (by decide)) (by decide)
  have HB := Lib.hid (below_next HB.out hb)
  have HA := Lib.hid (HA.out.below hb)
  have HM := Lib.hid (HM.out.below hb)
  have HN := Lib.hid hs
  clear hb ho hs
  go_wp2_with fail
  refine (example_any _).mono ?_
  rintro e w7 ⟨v, rfl, hb, ho⟩
  obtain ⟨qe3, cqe3, rfl, hs⟩ := own_sps (s := [(4, 4), (16, 20)]) ho (okay_of (by decide)) (by decide)
  have HB := Lib.hid (below_next HB.out hb)
  have HA := Lib.hid (HA.out.below hb)
  have HM := Lib.hid (HM.out.below hb)
  have HN := Lib.hid (HN.out.below hb)
  have HE := Lib.hid hs
  clear hb ho hs
  go_wp2_with fail
  refine (c_count _ _ _ HE.out).mono ?_
  rintro e w8 ⟨rfl, hb⟩
  have HB := Lib.hid (below_next HB.out hb)
  have HA := Lib.hid (HA.out.below hb)
  have HM := Lib.hid (HM.out.below hb)
  have HN := Lib.hid (HN.out.below hb)
  clear hb
  go_wp2_with fail
  refine (example_any _).mono ?_
  rintro e w9 ⟨v, rfl, hb, ho⟩
  obtain ⟨qe4, cqe4, rfl, hs⟩ := own_sps (s := [(4, 4), (16, 20)]) ho (okay_of (by decide)) (by decide)
  have HB := Lib.hid (below_next HB.out hb)
  have HA := Lib.hid (HA.out.below hb)
  have HM := Lib.hid (HM.out.below hb)
  have HN := Lib.hid (HN.out.below hb)
  have HE := Lib.hid hs
  clear hb ho hs
  go_wp2_with fail
  refine (c_first _ _ _ HE.out).mono ?_
  rintro e w10 ⟨rfl, hb⟩
  have HB := Lib.hid (below_next HB.out hb)
  have HA := Lib.hid (HA.out.below hb)
  have HM := Lib.hid (HM.out.below hb)
  have HN := Lib.hid (HN.out.below hb)
  clear hb
  go_wp2_with fail
  refine (example_any _).mono ?_
  rintro e w11 ⟨v, rfl, hb, ho⟩
  obtain ⟨qe5, cqe5, rfl, hs⟩ := own_sps (s := [(4, 4), (16, 20)]) ho (okay_of (by decide)) (by decide)
  have HB := Lib.hid (below_next HB.out hb)
  have HA := Lib.hid (HA.out.below hb)
  have HM := Lib.hid (HM.out.below hb)
  have HN := Lib.hid (HN.out.below hb)
  have HE := Lib.hid hs
  clear hb ho hs
  go_wp2_with fail
  refine (c_pieces _ _ _ HE.out).mono ?_
  rintro e w12 ⟨Bs, Bz, v, rfl, hb, _, _, hs1, hs2, ho⟩
  have HB := Lib.hid (below_next HB.out hb)
  have HA := Lib.hid (HA.out.below hb)
  have HM := Lib.hid (HM.out.below hb)
  have HN := Lib.hid (HN.out.below hb)
  have CLP := Lib.hid (c_lp Bs Bz v _ _ hs1 hs2 ho)
  clear hb hs1 hs2 ho
  go_wp2_with fail
  refine CLP.out.mono ?_
  rintro e w13 ⟨v, rfl, hb, ho⟩
  obtain ⟨ql, cql, rfl, hs⟩ := own_sps (s := [(4, 4), (16, 16), (32, 4)]) ho (okay_of (by decide)) (by decide)
  have HB := Lib.hid (below_next HB.out hb)
  have HA := Lib.hid (HA.out.below hb)
  have HM := Lib.hid (HM.out.below hb)
  have HN := Lib.hid (HN.out.below hb)
  have HL := Lib.hid hs
  clear hb ho hs
  clear CLP
  go_wp2_with fail
  refine (one_any 2 8 _).mono ?_
  rintro e w14 ⟨v, rfl, hb, ho⟩
  obtain ⟨qo2, cqo2, rfl, hs⟩ := own_sps (s := [(2, 8)]) ho (okay_of (by decide)) (by decide)
  have HB := Lib.hid (below_next HB.out hb)
  have HA := Lib.hid (HA.out.below hb)
  have HM := Lib.hid (HM.out.below hb)
  have HN := Lib.hid (HN.out.below hb)
  have HL := Lib.hid (HL.out.below hb)
  have HO := Lib.hid hs
  clear hb ho hs
  go_wp2_with fail
  refine (c_same [(2, 8)] 1 rfl _ _ _ _ _ HA.out HO.out).mono ?_
  rintro e w15 ⟨rfl, hb⟩
  have HB := Lib.hid (below_next HB.out hb)
  have HA := Lib.hid (HA.out.below hb)
  have HM := Lib.hid (HM.out.below hb)
  have HN := Lib.hid (HN.out.below hb)
  have HL := Lib.hid (HL.out.below hb)
  clear hb
  go_wp2_with fail
  refine (c_same [(6, 2), (16, 2)] 2 rfl _ _ _ _ _ (HM.out.below ((Below.refl _ _).alloc (Nat.le_refl _) _)) (made_sps _ [(6, 2), (16, 2)] _ rfl (by decide) (okay_of (by decide)))).mono ?_
  rintro e w16 ⟨rfl, hb⟩
  replace hb := boxB hb
  have HB := Lib.hid (below_next HB.out hb)
  have HA := Lib.hid (HA.out.below hb)
  have HN := Lib.hid (HN.out.below hb)
  have HL := Lib.hid (HL.out.below hb)
  clear hb
  go_wp2_with fail
  refine (c_same [(0, 4), (8, 8)] 2 rfl _ _ _ _ _ (HN.out.below ((Below.refl _ _).alloc (Nat.le_refl _) _)) (made_sps _ [(0, 4), (8, 8)] _ rfl (by decide) (okay_of (by decide)))).mono ?_
  rintro e w17 ⟨rfl, hb⟩
  replace hb := boxB hb
  have HB := Lib.hid (below_next HB.out hb)
  have HA := Lib.hid (HA.out.below hb)
  have HL := Lib.hid (HL.out.below hb)
  clear hb
  go_wp2_with fail
  refine (c_same [(4, 4), (16, 16), (32, 4)] 3 rfl _ _ _ _ _ (HL.out.below ((Below.refl _ _).alloc (Nat.le_refl _) _)) (made_sps _ [(4, 4), (16, 16), (32, 4)] _ rfl (by decide) (okay_of (by decide)))).mono ?_
  rintro e w18 ⟨rfl, hb⟩
  replace hb := boxB hb
  have HB := Lib.hid (below_next HB.out hb)
  have HA := Lib.hid (HA.out.below hb)
  clear hb
  go_wp2_with fail
  go_ret
  exact ⟨rfl, HB.out⟩
end Go.Proofs.Ytnhbilcpdombfaa
