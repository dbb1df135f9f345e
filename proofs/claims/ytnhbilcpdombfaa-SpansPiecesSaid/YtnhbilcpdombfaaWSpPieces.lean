/- The law SpansPieces, walked. -/
import Derived.Test.YtnhbilcpdombfaaSpAwake
import Derived.Test.YtnhbilcpdombfaaSpPgs
import Derived.Test.YtnhbilcpdombfaaSpLawMath
import Derived.BigQuiet
namespace Go.Proofs.Ytnhbilcpdombfaa
open Go.RowKit

theorem okay_set {s : List (Nat × Nat)} (h : IsSet 1024 s) : Okay s := fun x hx => h.run x hx
theorem okay_pieces {size : Nat} {s : List (Nat × Nat)} (hz : 1 ≤ size) (h : IsSet 1024 s) : Okay (piecesL size s) := fun x hx => by
  obtain ⟨h1, h2, _⟩ := (pieces_facts hz h).1 x hx
  exact ⟨h1, h2⟩
theorem of_pieces {size : Nat} {s : List (Nat × Nat)} (hz : 1 ≤ size) (h : IsSet 1024 s) : ofR (up (piecesL size s)) = (s, 0) := by
  obtain ⟨f1, f2, f3, f4, f5⟩ := pieces_facts hz h
  have hlen := f3 0 (fun x _ => Nat.zero_le _)
  have hl : listR (up (piecesL size s)) 2000 = 0 := by
    unfold listR
    rw [if_neg (by rw [up_len]; omega), if_pos]
    rw [List.all_eq_true]
    intro x hx
    obtain ⟨y, hy, rfl⟩ := List.mem_map.1 hx
    obtain ⟨g1, g2, _⟩ := f1 y hy
    exact (validR_iff _).2 (by simp only; omega)
  unfold ofR
  rw [hl, if_neg (by simp), down_up]
  obtain ⟨s1, s2, _⟩ := setF_ok (inS (piecesL size s)) 1024
  rw [set_uniq s1 h (fun p hp => by rw [s2 p hp, f5])]
set_option maxHeartbeats 8000000 in
set_option maxRecDepth 100000 in
theorem spansPieces_walk (l : List (Int × Int)) (p : Option Addr) (cap : Nat) (sz : Int) (w : World) (h : SpsAt w p l) :
    Calls Try.prog 10 #[.slice p l.length cap, .int .i64 sz] w (TruePost w) := by
  have CA := Lib.hid (fun W => awake_any W)
  have HB := Lib.hid (Below.refl w.heap.size w)
  by_cases h1 : 600 < l.length
  · have i1 : (600 : Int) < l.length := by omega
    clear h h1
    go_enter Try.func10, Try.ntmps10
    go_wp2_with fail
    refine (CA.out _).mono ?_
    rintro e wz ⟨rfl, hb⟩
    have HBZ := Lib.hid (below_next HB.out hb)
    clear hb
    go_wp2_with fail
    go_ret
    exact ⟨rfl, HBZ.out⟩
  · have i1 : ¬ (600 : Int) < l.length := by omega
    have ck := fun W (hW : Below w.heap.size w W) => check_any l p cap W (h.below hW)
    unfold ErrPost at ck
    by_cases hc : checkR l = 0
    · rw [hc] at ck
      have CK := Lib.hid ck
      clear ck
      by_cases h2 : sz < 1
      · clear h h1 hc
        go_enter Try.func10, Try.ntmps10
        go_wp2_with fail
        refine (CK.out _ HB.out).mono ?_
        rintro e w1 ⟨rfl, hb⟩
        have HB := Lib.hid (below_next HB.out hb)
        clear hb
        go_wp2_with fail
        refine (CA.out _).mono ?_
        rintro e wz ⟨rfl, hb⟩
        have HBZ := Lib.hid (below_next HB.out hb)
        clear hb
        go_wp2_with fail
        go_ret
        exact ⟨rfl, HBZ.out⟩
      · by_cases h3 : 1024 < sz
        · clear h h1 hc
          go_enter Try.func10, Try.ntmps10
          go_wp2_with fail
          refine (CK.out _ HB.out).mono ?_
          rintro e w1 ⟨rfl, hb⟩
          have HB := Lib.hid (below_next HB.out hb)
          clear hb
          go_wp2_with fail
          refine (CA.out _).mono ?_
          rintro e wz ⟨rfl, hb⟩
          have HBZ := Lib.hid (below_next HB.out hb)
          clear hb
          go_wp2_with fail
          go_ret
          exact ⟨rfl, HBZ.out⟩
        · obtain ⟨hv, hset, hl⟩ := check_set hc
          obtain ⟨size, rfl⟩ : ∃ m : Nat, sz = (m : Int) := ⟨sz.toNat, by omega⟩
          obtain ⟨s, hs⟩ : ∃ s, s = down l := ⟨_, rfl⟩
          have hul : up s = l := by rw [hs]; exact up_down hv
          rw [← hs] at hset
          have hlen : l.length = s.length := by rw [← hul, up_len]
          rw [← hul] at h hc
          have hsl : s.length ≤ 512 := by omega
          have hz1 : 1 ≤ size := by omega
          have hz2 : size ≤ 1024 := by omega
          rw [hlen] at CK i1 ⊢
          have hcnt : countR (up s) = ((sumS s : Int), 0) := by unfold countR; rw [hc, if_neg (by simp), down_up]
          have cp := fun W (hW : Below w.heap.size w W) => pieces_good s p cap size W (h.below hW) hsl hz1 hz2 hc
          have cg := fun W (hW : Below w.heap.size w W) => pages_good s p cap W (h.below hW) hsl hc
          have cc := fun W (hW : Below w.heap.size w W) => count_any (up s) p cap W (h.below hW)
          rw [hcnt, up_len] at cc
          unfold IntErr at cc
          have hpf := pieces_facts hz1 hset
          have hok := okay_pieces hz1 hset
          have hof := of_pieces hz1 hset
          have hLl := hpf.2.2.1 0 (fun x _ => Nat.zero_le _)
          have hpl := pages_len s
          have hp1 := (pieces_facts (size := 1) (Nat.le_refl _) hset).2.2.1 0 (fun x _ => Nat.zero_le _)
          have hp2 : (pagesL s).length ≤ 1024 := by rw [← pages_one, List.length_map]; omega
          have hlg : lgR 1024 (pagesL s) = (pagesL s, true) := by unfold lgR; rw [if_pos hp2]
          have hlp : lpR 1024 (piecesL size s) = (piecesL size s, true) := by unfold lpR; rw [if_pos (by omega)]
          have HH := Lib.hid h; have HSET := Lib.hid hset; have CP := Lib.hid cp; have CG := Lib.hid cg; have CC := Lib.hid cc; have HOK := Lib.hid hok; have HOF := Lib.hid hof; have HLG := Lib.hid hlg; have HLP := Lib.hid hlp; have HPL := Lib.hid hpl
          have HF1 := Lib.hid hpf.1; have HF2 := Lib.hid hpf.2.1
          have tN : (((sumS s : Nat) : Int) != ((sumS s : Nat) : Int)) = false := by simp
          clear h hs hul hlen hv hc h1 hl hcnt cp cg cc hok hof hpf hp1 hlg hlp hset hpl
          go_enter Try.func10, Try.ntmps10
          go_wp2_with fail
          refine (CK.out _ HB.out).mono ?_
          rintro e w1 ⟨rfl, hb⟩
          have HB := Lib.hid (below_next HB.out hb)
          clear hb
          go_wp2_with fail
          refine (CP.out _ HB.out).mono ?_
          rintro e w2 ⟨Bs, Bz, v, rfl, hb, _, _, hs1, hs2, ho⟩
          obtain ⟨q1, c1, rfl, hq1⟩ := own_sps ho (okay_set HSET.out) (by omega)
          have HB := Lib.hid (below_next HB.out hb)
          have C1 := Lib.hid (callsIn_wide.1 (lpieces_in 3 Bs Bz size 1024 c1 q1 s w2 (Nat.le_refl _) HSET.out hsl hz1 hz2 hs1 hs2 hq1))
          rw [HLP.out] at C1
          clear hb hs1 hs2 ho hq1
          go_wp2_with fail
          refine C1.out.mono ?_
          rintro e w3 ⟨v, rfl, hb, ho⟩
          obtain ⟨q2, c2, rfl, hq2⟩ := own_sps ho HOK.out (by simp only; omega)
          have HB := Lib.hid (below_next HB.out hb)
          have HL := Lib.hid hq2
          clear hb ho hq2 C1
          go_wp2_with fail
          refine (CG.out _ HB.out).mono ?_
          rintro e w4 ⟨Bp, Bs, Bz, v, rfl, hb, hs0, hs1, hs2, ho⟩
          obtain ⟨q3, c3, rfl, hq3⟩ := own_sps ho (okay_set HSET.out) (by omega)
          have HB := Lib.hid (below_next HB.out hb)
          have HL := Lib.hid (HL.out.below hb)
          have C2 := Lib.hid (lpages_good Bp Bs Bz 1024 c3 q3 s w4 HSET.out hsl hs0 hs1 hs2 hq3)
          rw [HLG.out] at C2
          clear hb hs0 hs1 hs2 ho hq3
          go_wp2_with fail
          refine C2.out.mono ?_
          rintro e w5 ⟨v, rfl, hb, ho⟩
          obtain ⟨q4, c4, rfl⟩ : ∃ q c, v = .slice q (sumS s) c := by
            rw [← HPL.out]
            rcases ho.2 with ⟨h, h0⟩ | ⟨g, c, cur, h, _⟩
            · exact ⟨none, 0, by rw [h]; simp only at h0 ⊢; rw [h0]⟩
            · exact ⟨_, _, h⟩
          have HB := Lib.hid (below_next HB.out hb)
          have HL := Lib.hid (HL.out.below hb)
          clear hb ho C2
          go_wp2_with fail
          refine (CC.out _ HB.out).mono ?_
          rintro e w6 ⟨rfl, hb⟩
          have HB := Lib.hid (below_next HB.out hb)
          have HL := Lib.hid (HL.out.below hb)
          have c3 := of_any _ q2 c2 w6 HL.out
          rw [HOF.out, up_len] at c3
          have C3 := Lib.hid c3
          clear hb c3
          go_wp2_with fail
          refine C3.out.mono ?_
          rintro e w7 ⟨v, rfl, hb, ho⟩
          obtain ⟨q5, c5, rfl, hq5⟩ := own_sps ho (okay_set HSET.out) (by simp only; omega)
          have HB := Lib.hid (below_next HB.out hb)
          have HL := Lib.hid (HL.out.below hb)
          have C4 := Lib.hid (c_same s s.length rfl q5 p c5 cap w7 hq5 (HH.out.below HB.out))
          clear hb ho hq5 C3
          simp only
          go_wp2_with fail
          refine C4.out.mono ?_
          rintro e w8 ⟨rfl, hb⟩
          have HB := Lib.hid (below_next HB.out hb)
          have HL := Lib.hid (HL.out.below hb)
          clear hb C4
          go_wp2_with fail
          obtain ⟨L, hL⟩ : ∃ L, L = piecesL size s := ⟨_, rfl⟩
          rw [← hL] at HL HF1 HF2 hLl ⊢
          have l4 : (L.length : Int) ≤ 1024 := by omega
          clear HOK HOF HLG HLP HPL HSET HH CP CG CC CK hL tN hp2
          go_loopg [13] L.length (fun n1 i W => ∃ j : Nat, j + n1 = L.length ∧ i = .int .i64 j ∧ Below w.heap.size w W ∧ SpsAt W q2 (up L))
          case atStart => exact ⟨0, by omega, by go_num, HB.out, HL.out⟩
          case round =>
            clear HB HL
            obtain ⟨j, hjn, rfl, hbw, hll⟩ := hrel
            have HBW := Lib.hid hbw; have HL := Lib.hid hll
            clear hbw hll
            have j0 : (0 : Int) ≤ j := by omega
            by_cases hlt : j < L.length
            · obtain ⟨n', rfl⟩ : ∃ n', gk = n' + 1 := ⟨gk - 1, by omega⟩
              obtain ⟨g, off, rfl, hg, hc⟩ := HL.out.at_ (by rw [up_len]; omega)
              obtain ⟨x0, x1⟩ := hc j (by rw [up_len]; exact hlt)
              rw [up_get] at x0 x1
              obtain ⟨f1, f2, f3⟩ := HF1.out _ (List.getElem_mem hlt)
              have hnx := fun k (hk : k + 1 = j) => by
                have := chain_get HF2.out k (by omega)
                exact (this : NextP size (L[k]'(by omega)) (L[k + 1]'(by omega)))
              have i2 : (j : Int) < L.length := by omega
              have HC := Lib.hid hc
              obtain ⟨x, hx⟩ : ∃ x, x = L[j]'hlt := ⟨_, rfl⟩
              have hnx2 : ∀ k (hk : k + 1 = j), NextP size (L[k]'(by omega)) x := fun k hk => by
                have := hnx k hk
                subst hk
                rw [hx]; exact this
              rw [← hx] at x0 x1 f1 f2 f3
              clear hnx hc hx
              obtain ⟨a, b⟩ := x
              simp only at x0 x1 f1 f2 f3
              obtain ⟨q, hq⟩ : ∃ q, q = a / size := ⟨_, rfl⟩
              have hq1 : Int.tdiv (a : Int) (size : Int) = (q : Int) := by rw [hq]; exact (Int.ofNat_tdiv a size).symm
              have hq2 : Int.tdiv ((a : Int) + (b : Int) - 1) (size : Int) = (q : Int) := by
                rw [show (a : Int) + (b : Int) - 1 = ((a + b - 1 : Nat) : Int) by omega, hq, f3]; exact (Int.ofNat_tdiv _ size).symm
              have hq3 : q ≤ 1024 := by rw [hq]; exact Nat.le_trans (Nat.div_le_self _ _) (by omega)
              have hq4 : IntKind.i64.wrap (q : Int) = (q : Int) := IntWalk.i64_in _ (by omega)
              have z0 : ¬ (size : Int) = 0 := by omega
              have w1 : IntKind.i64.wrap ((a : Int) + (b : Int)) = (a : Int) + (b : Int) := IntWalk.i64_in _ (by omega)
              have w2 : IntKind.i64.wrap ((a : Int) + (b : Int) - 1) = (a : Int) + (b : Int) - 1 := IntWalk.i64_in _ (by omega)
              have tq : ((q : Int) != (q : Int)) = false := by simp
              have HNX := Lib.hid hnx2
              clear hnx2 hq f3
              by_cases hz : j = 0
              · have t0 : decide ((0 : Int) < (j : Int)) = false := decide_eq_false (by omega)
                have t1 : decide (0 < j) = false := decide_eq_false (by omega)
                clear HNX hz
                go_wp2_with fail
                refine wp_region_quiet_lit (by kernel_rfl) (by kernel_rfl) ?_
                try simp only [List.append]
                repeat (go_big_quiet_step (fail))
                refine wpQuiet_nil ?_
                intro _ hw'
                obtain ⟨nq, rfl⟩ := hw'
                go_wp2_with fail
                go_roundg n'
                case measure => omega
                case rel => exact ⟨j + 1, by omega, by go_num, HBW.out.trans (drewB _ _ _), HL.out.below (drewB _ _ _)⟩
              · obtain ⟨k, hk⟩ : ∃ k, k + 1 = j := ⟨j - 1, by omega⟩
                obtain ⟨y0, y1⟩ := HC.out k (by rw [up_len]; omega)
                rw [up_get] at y0 y1
                obtain ⟨g1, g2, _⟩ := HF1.out _ (List.getElem_mem (show k < L.length by omega))
                have hnx := HNX.out k hk
                unfold NextP at hnx
                generalize L[k]'(show k < L.length by omega) = y at y0 y1 g1 g2 hnx
                obtain ⟨c, d⟩ := y
                simp only at y0 y1 g1 g2 hnx
                have t0 : decide ((0 : Int) < (j : Int)) = true := decide_eq_true (by omega)
                have t0' : decide (0 < j) = true := decide_eq_true (by omega)
                have w3 : IntKind.i64.wrap ((c : Int) + (d : Int)) = (c : Int) + (d : Int) := IntWalk.i64_in _ (by omega)
                have w4 : IntKind.i64.wrap ((c : Int) + (d : Int) - 1) = (c : Int) + (d : Int) - 1 := IntWalk.i64_in _ (by omega)
                have w5 : IntKind.i64.wrap ((j : Int) - 1) = (k : Int) := by rw [show (j : Int) - 1 = (k : Int) by omega]; exact IntWalk.i64_in _ (by omega)
                have k0 : (0 : Int) ≤ k := by omega
                have i3 : (k : Int) < L.length := by omega
                have t1 : decide ((a : Int) ≤ (c : Int) + (d : Int) - 1) = false := decide_eq_false (by omega)
                clear HNX
                by_cases he : a = c + d
                · have hm : a % size = 0 := by
                    rcases hnx with h | h
                    · omega
                    · exact h.2
                  have te : ((a : Int) == (c : Int) + (d : Int)) = true := by rw [beq_iff_eq]; omega
                  have hr1 : Int.tmod (a : Int) (size : Int) = 0 := by rw [← Int.ofNat_tmod, hm]; rfl
                  have tz : ((0 : Int) != 0) = false := rfl
                  clear hnx hm he
                  go_wp2_with fail
                  refine wp_region_quiet_lit (by kernel_rfl) (by kernel_rfl) ?_
                  try simp only [List.append]
                  repeat (go_big_quiet_step (fail))
                  refine wpQuiet_nil ?_
                  intro _ hw'
                  obtain ⟨nq, rfl⟩ := hw'
                  go_wp2_with fail
                  go_roundg n'
                  case measure => omega
                  case rel => exact ⟨j + 1, by omega, by go_num, HBW.out.trans (drewB _ _ _), HL.out.below (drewB _ _ _)⟩
                · have te : ((a : Int) == (c : Int) + (d : Int)) = false := beq_eq_false_iff_ne.2 (by omega)
                  clear hnx he
                  go_wp2_with fail
                  refine wp_region_quiet_lit (by kernel_rfl) (by kernel_rfl) ?_
                  try simp only [List.append]
                  repeat (go_big_quiet_step (fail))
                  refine wpQuiet_nil ?_
                  intro _ hw'
                  obtain ⟨nq, rfl⟩ := hw'
                  go_wp2_with fail
                  go_roundg n'
                  case measure => omega
                  case rel => exact ⟨j + 1, by omega, by go_num, HBW.out.trans (drewB _ _ _), HL.out.below (drewB _ _ _)⟩
            · obtain rfl : j = L.length := by omega
              have i2 : ¬ ((L.length : Nat) : Int) < L.length := by omega
              go_wp2_with fail
              refine (CA.out _).mono ?_
              rintro e wz ⟨rfl, hb⟩
              have HBZ := Lib.hid (below_next HBW.out hb)
              clear hb
              go_wp2_with fail
              go_ret
              exact ⟨rfl, HBZ.out⟩
    · have CK := Lib.hid ck
      obtain ⟨t1, t2⟩ := neq0 hc
      clear ck h h1
      generalize checkR l = c at CK t1 t2 hc
      clear hc
      go_enter Try.func10, Try.ntmps10
      go_wp2_with fail
      refine (CK.out _ HB.out).mono ?_
      rintro e w1 ⟨rfl, hb⟩
      have HB := Lib.hid (below_next HB.out hb)
      clear hb
      go_wp2_with fail
      refine (CA.out _).mono ?_
      rintro e wz ⟨rfl, hb⟩
      have HBZ := Lib.hid (below_next HB.out hb)
      clear hb
      go_wp2_with fail
      go_ret
      exact ⟨rfl, HBZ.out⟩
end Go.Proofs.Ytnhbilcpdombfaa
