/- The reference's Pieces; the law's ints. -/
import Derived.Test.YtnhbilcpdombfaaSpGrMath
import Derived.Test.YtnhbilcpdombfaaSpSet
import Derived.BigQuiet
namespace Go.Proofs.Ytnhbilcpdombfaa
open Go.RowKit

set_option maxHeartbeats 2000000 in
set_option maxRecDepth 100000 in
theorem ints_any (A : List Nat) (p q : Option Addr) (c d : Nat) (w : World) (hp : PgAt w p A) (hq : PgAt w q A) (hA : A.length ≤ 1024) :
    Calls Try.prog 40 #[.slice p A.length c, .slice q A.length d] w (TruePost w) := by
  have HP := Lib.hid hp; have HQ := Lib.hid hq
  have l4 : (A.length : Int) ≤ 1024 := by omega
  have t0 : (((A.length : Nat) : Int) != ((A.length : Nat) : Int)) = false := by simp
  clear hp hq
  go_enter Try.func40, Try.ntmps40
  go_wp2_with fail
  go_loopg [5] A.length (fun n1 i W => ∃ j : Nat, j + n1 = A.length ∧ i = .int .i64 j ∧ Below w.heap.size w W)
  case atStart => exact ⟨0, by omega, by go_num, Below.refl _ _⟩
  case round =>
    obtain ⟨j, hjn, rfl, hbw⟩ := hrel
    have HB := Lib.hid hbw
    clear hbw
    have j0 : (0 : Int) ≤ j := by omega
    by_cases hlt : j < A.length
    · obtain ⟨n', rfl⟩ : ∃ n', gk = n' + 1 := ⟨gk - 1, by omega⟩
      obtain ⟨g, off, rfl, hg, hc⟩ := (HP.out.below HB.out).at_ (by omega)
      obtain ⟨g', off', rfl, hg', hd⟩ := (HQ.out.below HB.out).at_ (by omega)
      have x0 := hc j hlt
      have y0 := hd j hlt
      generalize A[j]'hlt = x at x0 y0
      have i1 : (j : Int) < A.length := by omega
      have tx : ((x : Int) != (x : Int)) = false := by simp
      clear hc hd
      go_wp2_with fail
      go_quiet (fail)
      go_wp2_with fail
      go_roundg n'
      case measure => omega
      case rel => exact ⟨j + 1, by omega, by go_num, HB.out.trans (drewB _ _ _)⟩
    · obtain rfl : j = A.length := by omega
      have i1 : ¬ ((A.length : Nat) : Int) < A.length := by omega
      go_wp2_with fail
      go_ret
      exact ⟨rfl, HB.out⟩
/-- Where a list of numbers lies. -/
theorem pg_low {W : World} {q : Option Addr} {A : List Nat} (h : PgAt W q A) : 0 < A.length → ∀ g off, q = some ⟨g, off, none⟩ → g < W.heap.size := fun h0 g off e => by
  obtain ⟨g', off', e', hg, _⟩ := h.at_ h0
  rw [e] at e'; cases e'; exact hg
theorem pg_kept {w W W' : World} {q : Option Addr} {A : List Nat} (h : PgAt W q A) (hl : 0 < A.length → ∀ g off, q = some ⟨g, off, none⟩ → g < w.heap.size) (hb : Below w.heap.size W W') : PgAt W' q A :=
  ⟨fun h0 => by
    obtain ⟨g, off, e, hg, hc⟩ := h.at_ h0
    exact ⟨g, off, e, Nat.lt_of_lt_of_le hg hb.size, fun j hj => (hb.cell (p := ⟨g, off + j, none⟩) (hl h0 g off e)).trans (hc j hj)⟩⟩
set_option maxHeartbeats 8000000 in
set_option maxRecDepth 100000 in
theorem rpieces_good (s : List (Nat × Nat)) (p : Option Addr) (cap size : Nat) (w : World) (hs : IsSet 1024 s) (hz1 : 1 ≤ size) (hz2 : size ≤ 1024)
    (hck : Calls Try.prog 16 #[.slice p s.length cap] w fun e w' => e = .returned (.int .i64 0) ∧ Below w.heap.size w w')
    (hpg : ∀ W, Below w.heap.size w W → Calls Try.prog 41 #[.slice p s.length cap] W (PgPost (pagesL s) W)) :
    Calls Try.prog 42 #[.slice p s.length cap, .int .i64 (size : Int)] w (SpsPost (piecesL size s) w) := by
  have CK := Lib.hid hck; have CG := Lib.hid hpg
  have hfin := stG_pieces hz1 hs
  rw [← hfin]
  have hA := pagesL_le hs
  have hAb : ∀ x ∈ pagesL s, x ≤ 1024 := by
    intro x hx
    unfold pagesL at hx
    obtain ⟨y, hy, hx⟩ := List.mem_flatMap.1 hx
    obtain ⟨k, hk, rfl⟩ := List.mem_map.1 hx
    have := (hs.run y hy).2
    have := List.mem_range.1 hk
    omega
  generalize pagesL s = A at CG hA hAb ⊢
  obtain ⟨i0, hi, hz0, hz1', hz2'⟩ := info_parts info_span
  have HIN := Lib.hid hi; have HZ0 := Lib.hid hz0; have HZ1 := Lib.hid hz1'; have HZ2 := Lib.hid hz2'
  have HAB := Lib.hid hAb
  have l4 : (A.length : Int) ≤ 1024 := by omega
  have i1 : ¬ (size : Int) < 1 := by omega
  have i2 : ¬ (1024 : Int) < (size : Int) := by omega
  have z0 : ¬ (size : Int) = 0 := by omega
  clear hck hpg hs hfin hi hz0 hz1' hz2' hAb
  go_enter Try.func42, Try.ntmps42
  go_wp2_with fail
  refine CK.out.mono ?_
  rintro e w1 ⟨rfl, hb⟩
  have HB1 := Lib.hid hb
  clear hb
  go_wp2_with fail
  refine (CG.out _ HB1.out).mono ?_
  rintro e w2 ⟨v, rfl, hb, ho⟩
  obtain ⟨q, cq, rfl, hq⟩ := own_pg ho
  have HB2 := Lib.hid (below_next HB1.out hb)
  have HPG := Lib.hid hq
  have HPB := Lib.hid (pg_low hq)
  have hsz2 := HB2.out.size
  clear hb ho hq
  go_wp2_with fail
  go_loopg [5, 7] A.length (fun n1 v i W => ∃ j : Nat, j + n1 = A.length ∧ i = .int .i64 j ∧ Below w.heap.size w W ∧ PgAt W q A ∧ w2.heap.size ≤ W.heap.size ∧ W.ownsRow w2.heap.size 31 2 v (stG size (A.take j)).1.length (SpC (stG size (A.take j)).1))
  case atStart => exact ⟨0, by omega, by go_num, HB2.out, HPG.out, Nat.le_refl _, World.ownsRow_nil _ _ _ _⟩
  case round =>
    clear HB1 HB2 HPG
    rename_i v0
    obtain ⟨j, hjn, rfl, hbw, hpa, hsz, hrow⟩ := hrel
    have HBW := Lib.hid hbw; have HRW := Lib.hid hrow; have HPA := Lib.hid hpa
    clear hbw hrow hpa
    have j0 : (0 : Int) ≤ j := by omega
    by_cases hlt : j < A.length
    · obtain ⟨n', rfl⟩ : ∃ n', gk = n' + 1 := ⟨gk - 1, by omega⟩
      obtain ⟨g, off, rfl, hg, hc⟩ := HPA.out.at_ (by omega)
      have x0 := hc j hlt
      have htk : A.take (j + 1) = A.take j ++ [A[j]'hlt] := by rw [List.take_add_one, List.getElem?_eq_getElem hlt]; rfl
      have hst : stG size (A.take (j + 1)) = stepG size (stG size (A.take j)) (A[j]'hlt) := by rw [htk, stG_snoc]
      have hx4 := HAB.out _ (List.getElem_mem hlt)
      have hlast : ∀ k (hk : k + 1 = j), (stG size (A.take j)).2 = some (A[k]'(by omega)) ∧ 1 ≤ (stG size (A.take j)).1.length := fun k hk => by
        have hk2 : k < A.length := by omega
        have e : A.take j = A.take k ++ [A[k]'hk2] := by rw [← hk, List.take_add_one, List.getElem?_eq_getElem hk2]; rfl
        have := stG_facts size (A.take k) (A[k]'hk2)
        rw [← e] at this
        exact ⟨this.1, this.2.1⟩
      have hlen : (stG size (A.take j)).1.length ≤ 1024 := by
        have := (stG_facts size (A.take j) 0).2.2
        rw [List.length_take] at this; omega
      generalize hx : A[j]'hlt = x at x0 hst hx4
      have HC := Lib.hid hc; have HST := Lib.hid hst; have HL := Lib.hid hlast
      have i3 : (j : Int) < A.length := by omega
      clear hc htk hst hlast hx
      by_cases hz : j = 0
      · have HS := Lib.hid (show (stG size (A.take (j + 1))).1 = (stG size (A.take j)).1 ++ [(x, 1)] by
          rw [HST.out]; unfold stepG
          have : (stG size (A.take j)).2 = none := by rw [hz]; rfl
          rw [this, if_neg (fun h => by cases h.1)])
        have t0 : decide ((0 : Int) < (j : Int)) = false := decide_eq_false (by omega)
        have t0' : decide (0 < j) = false := decide_eq_false (by omega)
        clear hz HL HC
        obtain ⟨N, hN⟩ : ∃ N, N = (stG size (A.take j)).1.length := ⟨_, rfl⟩
        have hrow := HRW.out
        rw [← hN] at hrow hlen
        have hb1 : N + 1 ≤ maxLen := by unfold maxLen; omega
        have hb2 : (N + 1) * 16 ≤ 140737488355328 := by omega
        have HO := Lib.hid hrow; have HNN := Lib.hid hN
        have H1C := Lib.hid (two_onecell (x : Int) 1); have HX1 := Lib.hid hb1; have HX2 := Lib.hid hb2
        clear hrow hN hb1 hb2
        go_wp2_with fail
        go_quiet (fail)
        have x0' : (wr.drewN nq).cell? ⟨g, off + j, none⟩ = some (.int .i64 (x : Int)) := x0
        go_wp2_with (at_builtin; refine wpList_append_own _ rfl _ _ 22 rfl w2.heap.size 31 i0 (.agg #[.int .i64 0, .int .i64 0]) 2 16 Try.underlying22 HIN.out HZ0.out HZ1.out HZ2.out rfl (by decide) _ _ _ rfl ((owns_below HO.out (drewB _ nq _)).alloc _) ⟨wr.heap.size, 0, none⟩ 1 1 [.int .i64 (x : Int), .int .i64 1] rfl rfl (cellB_two _ _ _ _ _ rfl) H1C.out HX1.out HX2.out (by simp; omega) ?_; intro v4 w4 hown4 hgrow4 hnil4)
        have hb4 : Below w2.heap.size wr w4 := ((drewB _ nq wr).trans ((Below.refl _ _).alloc (by simp; omega) _)).grown hgrow4 (by simp; omega) (fun k e => (HO.out.lt k e).1)
        have HB4 := Lib.hid hb4; have HO4 := Lib.hid hown4
        clear hb4 hown4 hgrow4 hnil4 x0'
        go_wp2_with fail
        go_roundg n'
        case measure => omega
        case rel => exact ⟨j + 1, by omega, by go_num, HBW.out.trans (HB4.out.mono hsz2), pg_kept HPA.out HPB.out HB4.out, Nat.le_trans hsz HB4.out.size, by rw [HS.out, List.length_append, ← HNN.out, SpC_snoc]; exact HO4.out⟩
      · obtain ⟨k, hk⟩ : ∃ k, k + 1 = j := ⟨j - 1, by omega⟩
        have y0 := HC.out k (by omega)
        have hy4 := HAB.out _ (List.getElem_mem (show k < A.length by omega))
        obtain ⟨hl2, hl1⟩ := HL.out k hk
        generalize A[k]'(show k < A.length by omega) = y at y0 hl2 hy4
        have t0 : decide ((0 : Int) < (j : Int)) = true := decide_eq_true (by omega)
        have t0' : decide (0 < j) = true := decide_eq_true (by omega)
        have w5 : IntKind.i64.wrap ((j : Int) - 1) = (k : Int) := by rw [show (j : Int) - 1 = (k : Int) by omega]; exact IntWalk.i64_in _ (by omega)
        have w6 : IntKind.i64.wrap ((y : Int) + 1) = (y : Int) + 1 := IntWalk.i64_in _ (by omega)
        have k0 : (0 : Int) ≤ k := by omega
        have i4 : (k : Int) < A.length := by omega
        obtain ⟨rm, hrm⟩ : ∃ rm, rm = x % size := ⟨_, rfl⟩
        have hr1 : Int.tmod (x : Int) (size : Int) = (rm : Int) := by rw [hrm]; exact (Int.ofNat_tmod x size).symm
        have hr2 : rm ≤ 1024 := by have := Nat.mod_le x size; omega
        have hr3 : IntKind.i64.wrap (rm : Int) = (rm : Int) := IntWalk.i64_in _ (by omega)
        have HRM := Lib.hid hrm; have HL2 := Lib.hid hl2; have HL1 := Lib.hid hl1
        clear hk hrm HL HC hl2 hl1
        by_cases he : x = y + 1
        · have te : ((x : Int) == (y : Int) + 1) = true := by rw [beq_iff_eq]; omega
          have hj : joinB (some y) x = true := decide_eq_true he
          have HJ := Lib.hid hj
          by_cases h0 : rm = 0
          · have HS := Lib.hid (show (stG size (A.take (j + 1))).1 = (stG size (A.take j)).1 ++ [(x, 1)] by
              rw [HST.out]; unfold stepG
              rw [if_neg (fun h => h.2 (by rw [← HRM.out]; exact h0))])
            have tz : ((rm : Int) != 0) = false := by rw [h0]; rfl
            clear he hj h0
            obtain ⟨N, hN⟩ : ∃ N, N = (stG size (A.take j)).1.length := ⟨_, rfl⟩
            have hrow := HRW.out
            rw [← hN] at hrow hlen
            have hb1 : N + 1 ≤ maxLen := by unfold maxLen; omega
            have hb2 : (N + 1) * 16 ≤ 140737488355328 := by omega
            have HO := Lib.hid hrow; have HNN := Lib.hid hN
            have H1C := Lib.hid (two_onecell (x : Int) 1); have HX1 := Lib.hid hb1; have HX2 := Lib.hid hb2
            clear hrow hN hb1 hb2
            go_wp2_with fail
            go_quiet (fail)
            have x0' : (wr.drewN nq).cell? ⟨g, off + j, none⟩ = some (.int .i64 (x : Int)) := x0
            go_wp2_with (at_builtin; refine wpList_append_own _ rfl _ _ 22 rfl w2.heap.size 31 i0 (.agg #[.int .i64 0, .int .i64 0]) 2 16 Try.underlying22 HIN.out HZ0.out HZ1.out HZ2.out rfl (by decide) _ _ _ rfl ((owns_below HO.out (drewB _ nq _)).alloc _) ⟨wr.heap.size, 0, none⟩ 1 1 [.int .i64 (x : Int), .int .i64 1] rfl rfl (cellB_two _ _ _ _ _ rfl) H1C.out HX1.out HX2.out (by simp; omega) ?_; intro v4 w4 hown4 hgrow4 hnil4)
            have hb4 : Below w2.heap.size wr w4 := ((drewB _ nq wr).trans ((Below.refl _ _).alloc (by simp; omega) _)).grown hgrow4 (by simp; omega) (fun k e => (HO.out.lt k e).1)
            have HB4 := Lib.hid hb4; have HO4 := Lib.hid hown4
            clear hb4 hown4 hgrow4 hnil4 x0'
            go_wp2_with fail
            go_roundg n'
            case measure => omega
            case rel => exact ⟨j + 1, by omega, by go_num, HBW.out.trans (HB4.out.mono hsz2), pg_kept HPA.out HPB.out HB4.out, Nat.le_trans hsz HB4.out.size, by rw [HS.out, List.length_append, ← HNN.out, SpC_snoc]; exact HO4.out⟩
          · have HS := Lib.hid (show (stG size (A.take (j + 1))).1 = bump (stG size (A.take j)).1 by
              rw [HST.out]; unfold stepG
              rw [HL2.out, if_pos ⟨HJ.out, by rw [← HRM.out]; exact h0⟩])
            have tz : ((rm : Int) != 0) = true := by rw [bne_iff_ne]; omega
            have hrow := HRW.out
            have hne : (stG size (A.take j)).1 ≠ [] := by
              intro e
              have := HL1.out
              rw [e] at this; simp at this
            obtain ⟨L, u, v, hL⟩ : ∃ L u v, (stG size (A.take j)).1 = L ++ [(u, v)] := ⟨_, _, _, (List.dropLast_concat_getLast hne).symm⟩
            have hv4 : L.length ≤ 1024 := by rw [hL, List.length_append] at hlen; simp at hlen; omega
            have hvb : v ≤ 1024 := by
              have := stG_small size (A.take j) (u, v) (by rw [hL]; simp)
              rw [List.length_take] at this
              simp only at this; omega
            rw [hL] at hrow
            have HS2 := Lib.hid (show (stG size (A.take (j + 1))).1 = L ++ [(u, v + 1)] by rw [HS.out, hL, bump_snoc])
            have HROW := Lib.hid hrow
            clear he hj h0 hrow hne hL HS
            go_wp2_with fail
            go_quiet (fail)
            have hrow := owns_below HROW.out (drewB wr.heap.size nq wr)
            have HBD := Lib.hid (drewB w2.heap.size nq wr)
            generalize wr.drewN nq = W0 at hrow HBD ⊢
            obtain ⟨g5, cap5, e5, hg5, c5, f5, hst5⟩ := own_last hrow
            cases e5
            obtain ⟨N, hN⟩ : ∃ N, N = L.length := ⟨_, rfl⟩
            have hst' := hst5 (v + 1)
            rw [← hN] at c5 f5 hst' hv4 ⊢
            have n4 : (N : Int) ≤ 4096 := by omega
            have n0 : (0 : Int) ≤ N := by omega
            have np : (0 : Int) < (N : Int) + 1 := by omega
            have v0' : (0 : Int) ≤ v := by omega
            have v4' : (v : Int) ≤ 1024 := by omega
            have HB5 := Lib.hid (HBD.out.trans (Below.setCell (p := ⟨g5, N * 2 + 1, none⟩) (Below.refl w2.heap.size W0) hg5 (.int .i64 ((v + 1 : Nat) : Int))))
            have HST5 := Lib.hid hst'
            clear hrow hst5 hst' hN hg5 x0 y0
            go_wp2_with fail
            go_roundg n'
            case measure => omega
            case rel => exact ⟨j + 1, by omega, by go_num, HBW.out.trans (HB5.out.mono hsz2), pg_kept HPA.out HPB.out HB5.out, Nat.le_trans hsz HB5.out.size, by rw [HS2.out]; exact HST5.out⟩
        · have te : ((x : Int) == (y : Int) + 1) = false := beq_eq_false_iff_ne.2 (by omega)
          have HS := Lib.hid (show (stG size (A.take (j + 1))).1 = (stG size (A.take j)).1 ++ [(x, 1)] by
            rw [HST.out]; unfold stepG
            rw [HL2.out, if_neg (fun h => he (of_decide_eq_true h.1))])
          clear he
          obtain ⟨N, hN⟩ : ∃ N, N = (stG size (A.take j)).1.length := ⟨_, rfl⟩
          have hrow := HRW.out
          rw [← hN] at hrow hlen
          have hb1 : N + 1 ≤ maxLen := by unfold maxLen; omega
          have hb2 : (N + 1) * 16 ≤ 140737488355328 := by omega
          have HO := Lib.hid hrow; have HNN := Lib.hid hN
          have H1C := Lib.hid (two_onecell (x : Int) 1); have HX1 := Lib.hid hb1; have HX2 := Lib.hid hb2
          clear hrow hN hb1 hb2
          go_wp2_with fail
          go_quiet (fail)
          have x0' : (wr.drewN nq).cell? ⟨g, off + j, none⟩ = some (.int .i64 (x : Int)) := x0
          go_wp2_with (at_builtin; refine wpList_append_own _ rfl _ _ 22 rfl w2.heap.size 31 i0 (.agg #[.int .i64 0, .int .i64 0]) 2 16 Try.underlying22 HIN.out HZ0.out HZ1.out HZ2.out rfl (by decide) _ _ _ rfl ((owns_below HO.out (drewB _ nq _)).alloc _) ⟨wr.heap.size, 0, none⟩ 1 1 [.int .i64 (x : Int), .int .i64 1] rfl rfl (cellB_two _ _ _ _ _ rfl) H1C.out HX1.out HX2.out (by simp; omega) ?_; intro v4 w4 hown4 hgrow4 hnil4)
          have hb4 : Below w2.heap.size wr w4 := ((drewB _ nq wr).trans ((Below.refl _ _).alloc (by simp; omega) _)).grown hgrow4 (by simp; omega) (fun k e => (HO.out.lt k e).1)
          have HB4 := Lib.hid hb4; have HO4 := Lib.hid hown4
          clear hb4 hown4 hgrow4 hnil4 x0'
          go_wp2_with fail
          go_roundg n'
          case measure => omega
          case rel => exact ⟨j + 1, by omega, by go_num, HBW.out.trans (HB4.out.mono hsz2), pg_kept HPA.out HPB.out HB4.out, Nat.le_trans hsz HB4.out.size, by rw [HS.out, List.length_append, ← HNN.out, SpC_snoc]; exact HO4.out⟩
    · obtain rfl : j = A.length := by omega
      have i3 : ¬ ((A.length : Nat) : Int) < A.length := by omega
      have hr := HRW.out
      rw [List.take_length] at hr
      have HRE := Lib.hid (ownsRow_base hr hsz2)
      clear hr
      go_wp2_with fail
      go_ret
      exact ⟨_, rfl, HBW.out, HRE.out⟩
end Go.Proofs.Ytnhbilcpdombfaa
