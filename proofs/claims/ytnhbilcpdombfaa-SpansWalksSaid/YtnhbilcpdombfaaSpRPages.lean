/- The reference's Pages; lists of numbers in memory; the law's ints. -/
import Derived.Test.YtnhbilcpdombfaaSpWk
import Derived.Test.YtnhbilcpdombfaaSpRCheck
namespace Go.Proofs.Ytnhbilcpdombfaa
open Go.RowKit

/-- A slice that holds these numbers. -/
structure PgAt (W : World) (p : Option Addr) (A : List Nat) : Prop where
  at_ : 0 < A.length → ∃ g off, p = some ⟨g, off, none⟩ ∧ g < W.heap.size ∧ ∀ j (h : j < A.length), W.cell? ⟨g, off + j, none⟩ = some (.int .i64 ((A[j]'h : Nat) : Int))
theorem PgAt.below {w w' : World} {p : Option Addr} {A : List Nat} (h : PgAt w p A) (hb : Below w.heap.size w w') : PgAt w' p A :=
  ⟨fun h0 => by
    obtain ⟨g, off, e, hg, hc⟩ := h.at_ h0
    exact ⟨g, off, e, Nat.lt_of_lt_of_le hg hb.size, fun j hj => (hb.cell (p := ⟨g, off + j, none⟩) hg).trans (hc j hj)⟩⟩
theorem own_pg {W : World} {base : Nat} {v : Value} {A : List Nat} (h : W.ownsRow base 3 1 v A.length (PgC A)) : ∃ q cap, v = .slice q A.length cap ∧ PgAt W q A := by
  rcases h.2 with ⟨rfl, h0⟩ | ⟨g, cap, cur, rfl, hb, hg, _⟩
  · have : A = [] := List.length_eq_zero_iff.1 h0
    subst this
    exact ⟨none, 0, rfl, ⟨fun h => absurd h (Nat.lt_irrefl _)⟩⟩
  · refine ⟨some ⟨g, 0, none⟩, cap, rfl, ⟨fun _ => ⟨g, 0, rfl, (Array.getElem?_eq_some_iff.1 hg).1, fun j hj => ?_⟩⟩⟩
    have c0 := h.cells (g := g) rfl j (.int .i64 ((A[j]'hj : Nat) : Int)) (by unfold PgC; rw [List.getElem?_map, List.getElem?_eq_getElem hj]; rfl)
    rw [WideShapes.add_plain] at c0
    exact c0
def PgPost (A : List Nat) (w : World) (e : Ending) (w' : World) : Prop := ∃ v, e = .returned v ∧ Below w.heap.size w w' ∧ w'.ownsRow w.heap.size 3 1 v A.length (PgC A)
theorem range_step {a e : Nat} (h : a < e) : (List.range (e - a)).map (a + ·) = a :: (List.range (e - (a + 1))).map ((a + 1) + ·) := by
  obtain ⟨d, hd⟩ : ∃ d, e - a = d + 1 := ⟨e - a - 1, by omega⟩
  rw [hd, show e - (a + 1) = d by omega, List.range_succ_eq_map, List.map_cons, List.map_map]
  congr 1
  apply List.map_congr_left
  intro q _
  simp only [Function.comp]; omega
theorem pagesL_append (s t : List (Nat × Nat)) : pagesL (s ++ t) = pagesL s ++ pagesL t := by unfold pagesL; rw [List.flatMap_append]
theorem pagesL_le {s : List (Nat × Nat)} (hs : IsSet 1024 s) : (pagesL s).length ≤ 1024 := by
  rw [← pages_one, List.length_map]
  have := (pieces_facts (size := 1) (Nat.le_refl _) hs).2.2.1 0 (fun x _ => Nat.zero_le _)
  omega
set_option maxHeartbeats 4000000 in
set_option maxRecDepth 100000 in
theorem rpages_good (s : List (Nat × Nat)) (p : Option Addr) (cap : Nat) (w : World) (h : SpsAt w p (up s)) (hs : IsSet 1024 s) (hl : s.length ≤ 512)
    (hck : Calls Try.prog 16 #[.slice p s.length cap] w fun e w' => e = .returned (.int .i64 0) ∧ Below w.heap.size w w') :
    Calls Try.prog 41 #[.slice p s.length cap] w (PgPost (pagesL s) w) := by
  have CK := Lib.hid hck; have HW := Lib.hid h; have HS := Lib.hid hs
  have hA := pagesL_le hs
  obtain ⟨i0, hi, hz0, hz1, hz2⟩ := info_parts info_int
  have HIN := Lib.hid hi; have HZ0 := Lib.hid hz0; have HZ1 := Lib.hid hz1; have HZ2 := Lib.hid hz2
  clear hck h hs hi hz0 hz1 hz2
  have l4 : (s.length : Int) ≤ 512 := by omega
  go_enter Try.func41, Try.ntmps41
  go_wp2_with fail
  refine CK.out.mono ?_
  rintro e w1 ⟨rfl, hb⟩
  have HB1 := Lib.hid hb
  clear hb
  go_wp2_with fail
  go_loopg [3, 4] s.length (fun n1 v i W => ∃ j : Nat, j + n1 = s.length ∧ i = .int .i64 j ∧ Below w.heap.size w W ∧ W.ownsRow w.heap.size 3 1 v (pagesL (s.take j)).length (PgC (pagesL (s.take j))))
  case atStart => exact ⟨0, by omega, by go_num, HB1.out, World.ownsRow_nil _ _ _ _⟩
  case round =>
    clear HB1
    rename_i v0
    obtain ⟨j, hjn, rfl, hbw, hrow⟩ := hrel
    have HBW := Lib.hid hbw; have HRW := Lib.hid hrow
    clear hbw hrow
    have j0 : (0 : Int) ≤ j := by omega
    by_cases hlt : j < s.length
    · obtain ⟨n', rfl⟩ : ∃ n', gk = n' + 1 := ⟨gk - 1, by omega⟩
      obtain ⟨g, off, rfl, hg, hc⟩ := (HW.out.below HBW.out).at_ (by rw [up_len]; omega)
      obtain ⟨x0, x1⟩ := hc j (by rw [up_len]; exact hlt)
      rw [up_get] at x0 x1
      obtain ⟨v1, v2⟩ := HS.out.run _ (List.getElem_mem hlt)
      have htk : s.take (j + 1) = s.take j ++ [s[j]'hlt] := by rw [List.take_add_one, List.getElem?_eq_getElem hlt]; rfl
      have hpl : pagesL (s.take (j + 1)) = pagesL (s.take j) ++ pagesL [s[j]'hlt] := by rw [htk, pagesL_append]
      have hT : pagesL s = pagesL (s.take (j + 1)) ++ pagesL (s.drop (j + 1)) := by rw [← pagesL_append, List.take_append_drop]
      have hTl : (pagesL (s.take (j + 1))).length ≤ 1024 := by rw [hT, List.length_append] at hA; omega
      generalize hx : s[j]'hlt = x at x0 x1 v1 v2 hpl
      obtain ⟨a, b⟩ := x
      simp only at x0 x1 v1 v2
      have HX := Lib.hid hx
      clear hx
      have i1 : (j : Int) < s.length := by omega
      obtain ⟨e, he⟩ : ∃ e, e = a + b := ⟨_, rfl⟩
      have hone : pagesL [(a, b)] = (List.range (e - a)).map (a + ·) := by
        unfold pagesL; rw [List.flatMap_cons, List.flatMap_nil, List.append_nil, show e - a = b by omega]
      rw [hone] at hpl
      have HPL := Lib.hid hpl; have HC := Lib.hid hc
      have he4 : e ≤ 1024 := by omega
      have hae : a ≤ e := by omega
      have e1 : IntKind.i64.wrap ((a : Int) + (b : Int)) = (a : Int) + (b : Int) := IntWalk.i64_in _ (by omega)
      have HEQ := Lib.hid he
      clear hc htk hpl hT hone he
      go_wp2_with fail
      clear x0 x1
      go_loopg [3, 5] (e - a) (fun n1 v pg W => ∃ (q : Nat) (pre : List Nat), q + n1 = e ∧ a ≤ q ∧ pg = .int .i64 q ∧ Below w.heap.size w W ∧ W.ownsRow w.heap.size 3 1 v pre.length (PgC pre) ∧ pre ++ (List.range (e - q)).map (q + ·) = pagesL (s.take (j + 1)))
      case atStart => exact ⟨a, _, by omega, Nat.le_refl _, rfl, HBW.out, HRW.out, HPL.out.symm⟩
      case round =>
        clear HBW HRW HC hg
        obtain ⟨q, pre, hqn, haq, rfl, hbw, hrow, hpre⟩ := hrel
        have HBW := Lib.hid hbw; have HRW := Lib.hid hrow; have HPRE := Lib.hid hpre
        obtain ⟨g', off', e', hg, hc⟩ := (HW.out.below HBW.out).at_ (by rw [up_len]; omega)
        cases e'
        obtain ⟨x0, x1⟩ := hc j (by rw [up_len]; exact hlt)
        rw [up_get] at x0 x1
        rw [HX.out] at x0 x1
        simp only at x0 x1
        have q0 : (0 : Int) ≤ q := by omega
        have q4 : (q : Int) ≤ 1024 := by omega
        clear hc hpre
        by_cases hlt2 : q < e
        · have i2 : (q : Int) < (a : Int) + (b : Int) := by have := HEQ.out; omega
          obtain ⟨N, hN⟩ : ∃ N, N = pre.length := ⟨_, rfl⟩
          have hst := range_step hlt2
          have hN4 : N + 1 ≤ 1024 := by
            have := HPRE.out
            rw [hst] at this
            rw [← this, List.length_append, List.length_cons, ← hN] at hTl
            omega
          rw [← hN] at hrow
          have hb1 : N + 1 ≤ maxLen := by unfold maxLen; omega
          have hb2 : (N + 1) * 8 ≤ 140737488355328 := by omega
          have HO := Lib.hid hrow; have HNN := Lib.hid hN; have HST := Lib.hid hst
          have H1C := Lib.hid (one_onecell (q : Int)); have HX1 := Lib.hid hb1; have HX2 := Lib.hid hb2
          have hbwz := HBW.out.size
          clear hrow hN hst hb1 hb2
          go_wp2_with fail
          go_quiet (fail)
          go_wp2_with (at_builtin; refine wpList_append_own _ rfl _ _ 48 rfl w.heap.size 3 i0 (.int .i64 0) 1 8 Try.underlying48 HIN.out HZ0.out HZ1.out HZ2.out rfl (by decide) _ _ _ rfl ((owns_below HO.out (drewB _ nq _)).alloc _) ⟨wr.heap.size, 0, none⟩ 1 1 [.int .i64 (q : Int)] rfl rfl (cellB_one _ _ _ _ rfl) H1C.out HX1.out HX2.out (by simp; omega) ?_; intro v4 w4 hown4 hgrow4 hnil4)
          have hbb : Below w.heap.size wr w4 := ((drewB _ nq wr).trans ((Below.refl _ _).alloc (by simp; omega) _)).grown hgrow4 (by simp; omega) (fun k e => (HO.out.lt k e).1)
          have HBB := Lib.hid hbb; have HO4 := Lib.hid hown4
          clear hbb hown4 hgrow4 hnil4
          go_wp2_with fail
          go_roundg (e - (q + 1))
          case measure => omega
          case rel => exact ⟨q + 1, pre ++ [q], by omega, by omega, by go_num, HBW.out.trans HBB.out, by rw [List.length_append, ← HNN.out, PgC_snoc]; exact HO4.out, by rw [← HPRE.out, HST.out]; simp⟩
        · obtain rfl : q = e := by omega
          have i2 : ¬ (q : Int) < (a : Int) + (b : Int) := by have := HEQ.out; omega
          have hpe := HPRE.out
          rw [Nat.sub_self] at hpe
          have HPE := Lib.hid (show pre = pagesL (s.take (j + 1)) by simpa using hpe)
          clear hpe hrow
          go_wp2_with fail
          go_quiet (fail)
          go_wp2_with fail
          go_roundg n'
          case measure => omega
          case rel => exact ⟨j + 1, by omega, by go_num, HBW.out.trans (drewB _ _ _), by rw [← HPE.out]; exact owns_below HRW.out (drewB _ _ _)⟩
    · obtain rfl : j = s.length := by omega
      have i1 : ¬ ((s.length : Nat) : Int) < s.length := by omega
      have hr := HRW.out
      rw [List.take_length] at hr
      have HRE := Lib.hid hr
      clear hr
      go_wp2_with fail
      go_ret
      exact ⟨_, rfl, HBW.out, HRE.out⟩
end Go.Proofs.Ytnhbilcpdombfaa
