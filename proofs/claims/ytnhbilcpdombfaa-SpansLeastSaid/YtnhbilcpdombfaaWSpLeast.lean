/- The law SpansLeast, walked. -/
import Derived.Test.YtnhbilcpdombfaaSpAwake
import Derived.Test.YtnhbilcpdombfaaSpLeast
namespace Go.Proofs.Ytnhbilcpdombfaa
open Go.RowKit

theorem checkR_vals (l : List (Int × Int)) : checkR l = 0 ∨ checkR l = 3 ∨ checkR l = 6 ∨ checkR l = 7 := by
  unfold checkR
  by_cases h : listR l 512 ≠ 0
  · rw [if_pos h]
    unfold listR
    by_cases h2 : 512 < l.length
    · rw [if_pos h2]; simp
    · rw [if_neg h2]; cases l.all validR <;> simp
  · rw [if_neg h]; cases gapsR l l.length <;> simp
theorem placeE_vals (l : List (Int × Int)) (a b : Int) : placeE l a b = 0 ∨ placeE l a b = 2 ∨ placeE l a b = 3 ∨ placeE l a b = 6 ∨ placeE l a b = 7 := by
  unfold placeE
  have hc := checkR_vals l
  by_cases h : checkR l ≠ 0
  · rw [if_pos h]; omega
  · rw [if_neg h]
    by_cases h1 : a < 1 ∨ 1024 < a
    · rw [if_pos h1]; simp
    · rw [if_neg h1]
      by_cases h2 : b < 1 ∨ 1024 < b
      · rw [if_pos h2]; simp
      · rw [if_neg h2]; cases powN b.toNat <;> simp
set_option maxHeartbeats 8000000 in
set_option maxRecDepth 100000 in
theorem spansLeast_walk (l : List (Int × Int)) (p : Option Addr) (cap : Nat) (x y : Int) (n : Nat) (w : World) (h : SpsAt w p l) (hn : n ≤ 65535) :
    Calls Try.prog 9 #[.slice p l.length cap, .agg #[.int .i64 x, .int .i64 y], .int .u16 (n : Int)] w (TruePost w) := by
  have CA := Lib.hid (fun W => awake_any W)
  have HB := Lib.hid (show Below w.heap.size w (w.alloc (.cells #[.int .i64 x, .int .i64 y] 58)) from (Below.refl _ _).alloc (Nat.le_refl _) _)
  have hb0 := heap_alloc_new w (.cells #[.int .i64 x, .int .i64 y] 58)
  have HBX := Lib.hid (show XAt (w.alloc (.cells #[.int .i64 x, .int .i64 y] 58)) w.heap.size x y from ⟨row_cell hb0 rfl, row_cell hb0 rfl⟩)
  clear hb0
  by_cases h1 : 600 < l.length
  · have i1 : (600 : Int) < l.length := by omega
    clear h h1
    go_enter Try.func9, Try.ntmps9
    go_wp2_with fail
    refine (CA.out _).mono ?_
    rintro e w2 ⟨rfl, hb⟩
    have HB := Lib.hid (below_next HB.out hb)
    clear hb
    go_wp2_with fail
    go_ret
    exact ⟨rfl, HB.out⟩
  · have i1 : ¬ (600 : Int) < l.length := by omega
    obtain ⟨pg, hpg⟩ : ∃ pg, pg = n % 1024 := ⟨_, rfl⟩
    have r1 : Int.tmod (n : Int) 1024 = (pg : Int) := by rw [hpg]; exact (Int.ofNat_tmod n 1024).symm
    have r2 : IntKind.i64.wrap (pg : Int) = (pg : Int) := IntWalk.i64_in _ (by omega)
    have r3 : IntKind.i64.wrap (n : Int) = (n : Int) := IntWalk.i64_in _ (by omega)
    have hpl : pg < 1024 := by omega
    clear hpg
    have p1 := fun W (hW : Below w.heap.size w W) => first_any l p cap x y W (h.below hW)
    have p2 := fun W (hW : Below w.heap.size w W) => best_any l p cap x y W (h.below hW)
    unfold IntErr at p1 p2
    by_cases hc : placeE l x y = 0
    · obtain ⟨hc1, hx1, hx2, k, hk, rfl⟩ := placeE_ok hc
      obtain ⟨hv, hset, hl⟩ := check_set hc1
      obtain ⟨m, rfl⟩ : ∃ m : Nat, x = (m : Int) := ⟨x.toNat, by omega⟩
      have a1 : 1 ≤ 2 ^ k := Nat.one_le_two_pow
      have a2 : 2 ^ k ≤ 1024 := by
        have : 2 ^ k ≤ 2 ^ 10 := Nat.pow_le_pow_right (by omega) hk
        simpa using this
      have e1 : firstR l (m : Int) ((2 ^ k : Nat) : Int) = foundR (2 ^ k) (foundX false m (2 ^ k) (down l)) := by
        unfold firstR; rw [if_neg (by rw [hc]; simp), Int.toNat_natCast, Int.toNat_natCast, firstL_found]
      have e2 : bestR l (m : Int) ((2 ^ k : Nat) : Int) = foundR (2 ^ k) (foundX true m (2 ^ k) (down l)) := by
        unfold bestR; rw [if_neg (by rw [hc]; simp), Int.toNat_natCast, Int.toNat_natCast]
      rw [e1] at p1; rw [e2] at p2
      clear e1 e2 hc
      generalize 2 ^ k = al at p1 p2 a1 a2 HB HBX ⊢
      have hm1 : 1 ≤ m := by omega
      have hm2 : m ≤ 1024 := by omega
      obtain ⟨s, hs⟩ : ∃ s, s = down l := ⟨_, rfl⟩
      have hul : up s = l := by rw [hs]; exact up_down hv
      rw [← hs] at p1 p2 hset
      have hlen : l.length = s.length := by rw [← hul, up_len]
      rw [← hul] at h hc1
      have hsl : s.length ≤ 512 := by omega
      rw [hlen] at p1 p2 i1 ⊢
      have pl := fun (W : World) (pt : Nat) (hp : pt < 1024) (hW : Below w.heap.size w W) => place_any s p cap pt m al W (h.below hW) hc1 hset hp hm1 hm2 a1 a2
      have pw := fun (W : World) (pt : Nat) (hp : pt < 1024) (hW : Below w.heap.size w W) => within_any s p cap pt W (h.below hW) hset hsl hp
      unfold BoolPost at pl
      unfold ErrPost at pw
      clear h hs hul hlen hv hc1 hx1 hx2 h1 hl
      rcases found_both (s := s) (m := m) (al := al) with ⟨f1, f2⟩ | ⟨ya, za, f1, f2⟩
      · rw [f1] at p1; rw [f2] at p2
        have hno := least_none (p := pg) a1 f1
        have pl := fun W hW => pl W pg hpl hW
        rw [hno] at pl
        have P1 := Lib.hid p1; have P2 := Lib.hid p2; have PL := Lib.hid pl
        unfold foundR at P1 P2
        simp only at P1 P2
        clear p1 p2 pl pw hno f1 f2 hset
        go_enter Try.func9, Try.ntmps9
        have q0 := HBX.out.c0
        have q1 := HBX.out.c1
        go_wp2_with fail
        refine (P1.out _ HB.out).mono ?_
        rintro e v1 ⟨rfl, hb⟩
        have HB := Lib.hid (below_next HB.out hb)
        have HBX := Lib.hid (HBX.out.below hb)
        clear hb q0 q1
        have q0 := HBX.out.c0
        have q1 := HBX.out.c1
        go_wp2_with fail
        refine (P2.out _ HB.out).mono ?_
        rintro e v2 ⟨rfl, hb⟩
        have HB := Lib.hid (below_next HB.out hb)
        have HBX := Lib.hid (HBX.out.below hb)
        clear hb q0 q1
        have q0 := HBX.out.c0
        have q1 := HBX.out.c1
        go_wp2_with fail
        refine (PL.out _ HB.out).mono ?_
        rintro e v3 ⟨rfl, hb⟩
        have HB := Lib.hid (below_next HB.out hb)
        have HBX := Lib.hid (HBX.out.below hb)
        clear hb q0 q1
        go_wp2_with fail
        refine (CA.out _).mono ?_
        rintro e w2 ⟨rfl, hb⟩
        have HB := Lib.hid (below_next HB.out hb)
        clear hb
        go_wp2_with fail
        go_ret
        exact ⟨rfl, HB.out⟩
      · rw [f1] at p1; rw [f2] at p2
        obtain ⟨my, fy⟩ := found_mem f1
        obtain ⟨mz, fz⟩ := found_mem f2
        have hya := fits_isP a1 my fy
        have hza := fits_isP a1 mz fz
        have ly : atP al ya < 1024 := by have := (hset.run _ my).2; unfold fitsP at fy; simp at fy; omega
        have lz : atP al za < 1024 := by have := (hset.run _ mz).2; unfold fitsP at fz; simp at fz; omega
        have pla := fun W hW => pl W (atP al ya) ly hW
        have plb := fun W hW => pl W (atP al za) lz hW
        have pl := fun W hW => pl W pg hpl hW
        have pwa := fun W hW => pw W pg hpl hW
        have pwb := fun W hW => pw W (atP al za) lz hW
        rw [hya] at pla; rw [hza] at plb
        have hsome := fun h => least_some (p := pg) hset hm1 a1 f1 f2 h
        clear pw hya hza f1 f2 fy fz my mz hset
        unfold foundR at p1 p2
        simp only at p1 p2
        generalize atP al ya = A at p1 pla ly hsome
        generalize atP al za = B at p2 plb lz pwb hsome
        generalize withinN s pg = wa at pwa hsome
        generalize withinN s B = wb at pwb hsome
        have P1 := Lib.hid p1; have P2 := Lib.hid p2; have PA := Lib.hid pla; have PB := Lib.hid plb
        have P0 : (0 : Int) ≤ pg := by omega
        clear p1 p2 pla plb
        cases hv : isP s m al pg
        · rw [hv] at pl
          have PL := Lib.hid pl
          clear pl hsome hv pwa pwb
          go_enter Try.func9, Try.ntmps9
          have q0 := HBX.out.c0
          have q1 := HBX.out.c1
          go_wp2_with fail
          refine (P1.out _ HB.out).mono ?_
          rintro e v1 ⟨rfl, hb⟩
          have HB := Lib.hid (below_next HB.out hb)
          have HBX := Lib.hid (HBX.out.below hb)
          clear hb q0 q1
          have q0 := HBX.out.c0
          have q1 := HBX.out.c1
          go_wp2_with fail
          refine (P2.out _ HB.out).mono ?_
          rintro e v2 ⟨rfl, hb⟩
          have HB := Lib.hid (below_next HB.out hb)
          have HBX := Lib.hid (HBX.out.below hb)
          clear hb q0 q1
          have q0 := HBX.out.c0
          have q1 := HBX.out.c1
          go_wp2_with fail
          refine (PA.out _ HB.out).mono ?_
          rintro e v3 ⟨rfl, hb⟩
          have HB := Lib.hid (below_next HB.out hb)
          have HBX := Lib.hid (HBX.out.below hb)
          clear hb q0 q1
          have q0 := HBX.out.c0
          have q1 := HBX.out.c1
          go_wp2_with fail
          refine (PB.out _ HB.out).mono ?_
          rintro e v4 ⟨rfl, hb⟩
          have HB := Lib.hid (below_next HB.out hb)
          have HBX := Lib.hid (HBX.out.below hb)
          clear hb q0 q1
          have q0 := HBX.out.c0
          have q1 := HBX.out.c1
          go_wp2_with fail
          refine (PL.out _ HB.out).mono ?_
          rintro e v5 ⟨rfl, hb⟩
          have HB := Lib.hid (below_next HB.out hb)
          have HBX := Lib.hid (HBX.out.below hb)
          clear hb q0 q1
          go_wp2_with fail
          refine (CA.out _).mono ?_
          rintro e w2 ⟨rfl, hb⟩
          have HB := Lib.hid (below_next HB.out hb)
          clear hb
          go_wp2_with fail
          go_ret
          exact ⟨rfl, HB.out⟩
        · rw [hv] at pl
          obtain ⟨g1, g2⟩ := hsome hv
          have PL := Lib.hid pl; have PWA := Lib.hid pwa; have PWB := Lib.hid pwb
          have g3 : (A : Int) ≤ (pg : Int) := by omega
          have g4 : (wb : Int) ≤ (wa : Int) := by omega
          clear pl hsome hv pwa pwb g1 g2
          go_enter Try.func9, Try.ntmps9
          have q0 := HBX.out.c0
          have q1 := HBX.out.c1
          go_wp2_with fail
          refine (P1.out _ HB.out).mono ?_
          rintro e v1 ⟨rfl, hb⟩
          have HB := Lib.hid (below_next HB.out hb)
          have HBX := Lib.hid (HBX.out.below hb)
          clear hb q0 q1
          have q0 := HBX.out.c0
          have q1 := HBX.out.c1
          go_wp2_with fail
          refine (P2.out _ HB.out).mono ?_
          rintro e v2 ⟨rfl, hb⟩
          have HB := Lib.hid (below_next HB.out hb)
          have HBX := Lib.hid (HBX.out.below hb)
          clear hb q0 q1
          have q0 := HBX.out.c0
          have q1 := HBX.out.c1
          go_wp2_with fail
          refine (PA.out _ HB.out).mono ?_
          rintro e v3 ⟨rfl, hb⟩
          have HB := Lib.hid (below_next HB.out hb)
          have HBX := Lib.hid (HBX.out.below hb)
          clear hb q0 q1
          have q0 := HBX.out.c0
          have q1 := HBX.out.c1
          go_wp2_with fail
          refine (PB.out _ HB.out).mono ?_
          rintro e v4 ⟨rfl, hb⟩
          have HB := Lib.hid (below_next HB.out hb)
          have HBX := Lib.hid (HBX.out.below hb)
          clear hb q0 q1
          have q0 := HBX.out.c0
          have q1 := HBX.out.c1
          go_wp2_with fail
          refine (PL.out _ HB.out).mono ?_
          rintro e v5 ⟨rfl, hb⟩
          have HB := Lib.hid (below_next HB.out hb)
          have HBX := Lib.hid (HBX.out.below hb)
          clear hb q0 q1
          go_wp2_with fail
          refine (PWA.out _ HB.out).mono ?_
          rintro e v6 ⟨rfl, hb⟩
          have HB := Lib.hid (below_next HB.out hb)
          have HBX := Lib.hid (HBX.out.below hb)
          clear hb
          go_wp2_with fail
          refine (PWB.out _ HB.out).mono ?_
          rintro e v7 ⟨rfl, hb⟩
          have HB := Lib.hid (below_next HB.out hb)
          have HBX := Lib.hid (HBX.out.below hb)
          clear hb
          go_wp2_with fail
          refine (CA.out _).mono ?_
          rintro e w2 ⟨rfl, hb⟩
          have HB := Lib.hid (below_next HB.out hb)
          clear hb
          go_wp2_with fail
          go_ret
          exact ⟨rfl, HB.out⟩
    · have e1 : firstR l x y = (0, placeE l x y) := by unfold firstR; rw [if_pos hc]
      have e2 : bestR l x y = (0, placeE l x y) := by unfold bestR; rw [if_pos hc]
      rw [e1] at p1; rw [e2] at p2
      have hv := placeE_vals l x y
      generalize placeE l x y = c at p1 p2 hv hc
      obtain ⟨t1, t2⟩ := neq0 hc
      have t3 : (c != 4) = true := by rw [bne_iff_ne]; omega
      have t4 : (c == 4) = false := beq_eq_false_iff_ne.2 (by omega)
      have P1 := Lib.hid p1; have P2 := Lib.hid p2
      clear p1 p2 e1 e2 hv hc h h1
      go_enter Try.func9, Try.ntmps9
      have q0 := HBX.out.c0
      have q1 := HBX.out.c1
      go_wp2_with fail
      refine (P1.out _ HB.out).mono ?_
      rintro e v1 ⟨rfl, hb⟩
      have HB := Lib.hid (below_next HB.out hb)
      have HBX := Lib.hid (HBX.out.below hb)
      clear hb q0 q1
      have q0 := HBX.out.c0
      have q1 := HBX.out.c1
      go_wp2_with fail
      refine (P2.out _ HB.out).mono ?_
      rintro e v2 ⟨rfl, hb⟩
      have HB := Lib.hid (below_next HB.out hb)
      have HBX := Lib.hid (HBX.out.below hb)
      clear hb q0 q1
      go_wp2_with fail
      refine (CA.out _).mono ?_
      rintro e w2 ⟨rfl, hb⟩
      have HB := Lib.hid (below_next HB.out hb)
      clear hb
      go_wp2_with fail
      go_ret
      exact ⟨rfl, HB.out⟩
end Go.Proofs.Ytnhbilcpdombfaa
