/- links: the reference's list: it goes through a list as listHolds does. -/
import Derived.Test.YtmelcohfjonjfaaLcHolds
namespace Go.Proofs.Ytmelcohfjonjfaa
open Go.RowKit

theorem went_full {F : LkF} {i n : Nat} {pre : List Nat} {c : Int} (h : Went F (i : Int) pre c) (hc : c ≠ -1) (hf : n ≤ pre.length) : ¬ Holds F n i := by
  rintro ⟨L, hL, _, hx⟩
  have hle := List.Nodup.length_le_of_subset hL.nodup (l₂ := List.range n) (fun y hy => List.mem_range.2 (hx y hy))
  rw [List.length_range] at hle
  obtain ⟨r, e1, h1, h2⟩ := h.det L _ hL (by omega)
  cases r with
  | nil => exact hc (h1 rfl)
  | cons y r => have := (h2 y r rfl).1; omega
theorem went_out {F : LkF} {i n : Nat} {pre : List Nat} {c : Int} (h : Went F (i : Int) pre c) (hc : c ≠ -1) (hf : c < 0 ∨ (n : Int) ≤ c) : ¬ Holds F n i := by
  rintro ⟨L, hL, _, hx⟩
  rcases Nat.le_total pre.length L.length with e | e
  · obtain ⟨r, e1, h1, h2⟩ := hL.det pre _ h e
    cases r with
    | nil => exact hc (h1 rfl).symm
    | cons y r =>
      have h3 := (h2 y r rfl).1
      have := hx y (by rw [e1]; simp)
      omega
  · obtain ⟨r, e1, h1, h2⟩ := h.det L _ hL e
    cases r with
    | nil => exact hc (h1 rfl)
    | cons y r => have := (h2 y r rfl).1; omega
set_option maxHeartbeats 8000000 in
set_option maxRecDepth 100000 in
theorem rlist_any {W : World} {s : SP} {v : Nat → Int} {F : LkF} {gm cm : Nat} {M : Nat → Bool} (hS : ∀ V, BelowS (fun k => k = gm) W.heap.size W V → SPAt V s v F) (hm : RowB W gm s.kl M) (hgm : gm < W.heap.size) (hn : s.kn = s.kl) (hp : s.kp = s.kl) (ha : s.ka = s.kf) {i : Nat} (hi : i < s.kf) (h1l : 1 ≤ s.kl) (hk : s.kl ≤ 2000) :
    Calls Try.prog 57 #[s.val, .int .i64 (i : Int), .slice (some ⟨gm, 0, none⟩) s.kl cm] W (HoldsPost F i s.kl gm M W) := by
  obtain ⟨pv, pl, pn, pp, pf, pa, kv, kl, kn, kp, kf, ka, cv, cl, cn, cp, cf, ca⟩ := s
  dsimp only at *
  replace hn := hn.symm; replace hp := hp.symm; replace ha := ha.symm
  subst hn hp ha
  obtain ⟨gl, ol, rfl, _, _⟩ := (hS W (BelowS.refl _ _ _)).l 0 (by dsimp only; omega)
  obtain ⟨gn, on, rfl, _, _⟩ := (hS W (BelowS.refl _ _ _)).n 0 (by dsimp only; omega)
  obtain ⟨gp, op, rfl, _, _⟩ := (hS W (BelowS.refl _ _ _)).p 0 (by dsimp only; omega)
  obtain ⟨gf, of, rfl, _, _⟩ := (hS W (BelowS.refl _ _ _)).f i hi
  obtain ⟨ga, oa, rfl, _, _⟩ := (hS W (BelowS.refl _ _ _)).a i hi
  obtain ⟨A, hA⟩ : ∃ A : Obj, A = .cells (SP.cells ⟨pv, some ⟨gl, ol, none⟩, some ⟨gn, on, none⟩, some ⟨gp, op, none⟩, some ⟨gf, of, none⟩, some ⟨ga, oa, none⟩, kv, kl, kl, kl, kf, kf, cv, cl, cn, cp, cf, ca⟩) 39 := ⟨_, rfl⟩
  have hbb := (Below.refl W.heap.size W).alloc (Nat.le_refl _) A
  have hsz : (W.alloc A).heap.size = W.heap.size + 1 := Array.size_push ..
  have hK0 : (W.alloc A).heap[W.heap.size]? = some A := heap_alloc_new W A
  have hm1 : RowB (W.alloc A) gm kl M := hm.block (hbb.block _ hgm)
  -- what holds in every world of the walk
  have hQ : ∀ V, BelowS (fun k => k = gm) (W.heap.size + 1) (W.alloc A) V → SPAt V ⟨pv, some ⟨gl, ol, none⟩, some ⟨gn, on, none⟩, some ⟨gp, op, none⟩, some ⟨gf, of, none⟩, some ⟨ga, oa, none⟩, kv, kl, kl, kl, kf, kf, cv, cl, cn, cp, cf, ca⟩ v F ∧
      V.cell? ⟨W.heap.size, 1, none⟩ = some (.slice (some ⟨gl, ol, none⟩) kl cl) ∧ V.cell? ⟨W.heap.size, 2, none⟩ = some (.slice (some ⟨gn, on, none⟩) kl cn) ∧ V.cell? ⟨W.heap.size, 3, none⟩ = some (.slice (some ⟨gp, op, none⟩) kl cp) ∧ V.cell? ⟨W.heap.size, 4, none⟩ = some (.slice (some ⟨gf, of, none⟩) kf cf) ∧ V.cell? ⟨W.heap.size, 5, none⟩ = some (.slice (some ⟨ga, oa, none⟩) kf ca) := by
    intro V hV
    have e : V.heap[W.heap.size]? = some A := (hV.block _ (by omega) (by omega)).trans hK0
    subst hA
    exact ⟨hS V ((BelowS.of hbb).trans (hV.less (by omega))), row_cell e rfl, row_cell e rfl, row_cell e rfl, row_cell e rfl, row_cell e rfl⟩
  have hout : ∀ V, BelowS (fun k => k = gm) (W.heap.size + 1) (W.alloc A) V → BelowS (fun k => k = gm) W.heap.size W V := fun V hV => (BelowS.of hbb).trans (hV.less (by omega))
  obtain ⟨a, hfa⟩ : ∃ a : Int, a = F.first i := ⟨_, rfl⟩
  obtain ⟨z, hza⟩ : ∃ z : Int, z = F.last i := ⟨_, rfl⟩
  have i0 : (0 : Int) ≤ i := by omega
  have i1 : (i : Int) < kf := by omega
  obtain ⟨hs0, b1, b2, b3, b4, b5⟩ := hQ (W.alloc A) (BelowS.refl _ _ _)
  have x0 := hs0.f.at hi
  try dsimp only at x0
  rw [← hfa] at x0
  have HQ := Lib.hid hQ; have HOUT := Lib.hid hout; have HM1 := Lib.hid hm1; have HFA := Lib.hid hfa; have HZA := Lib.hid hza; have HK := Lib.hid hk; have HI := Lib.hid hi; have HGM := Lib.hid hgm
  clear hQ hout hm1 hfa hza hk hi hS hm hgm hs0 hbb hsz hK0 h1l
  unfold SP.cells at hA
  dsimp only at hA
  unfold SP.val
  dsimp only [SP.cells]
  clear HI
  have HI : Hid (i < kf) := Lib.hid (by omega)
  go_enter Try.func57, Try.ntmps57
  go_wp2_with fail
  rw [← hA]
  clear hA
  have HV := Lib.hid (BelowS.of (S := fun k => k = gm) ((Below.refl (W.heap.size + 1) (W.alloc A)).drew))
  have HM2 : Hid (RowB (W.alloc A).drew gm kl M) := Lib.hid (HM1.out.block rfl)
  generalize hV0 : W.alloc A = V0 at *
  go_region
  go_wp2_with fail
  clear b1 b2 b3 b4 b5 x0
  have HB : Hid (∀ wr x, BelowS (fun k => k = gm) (W.heap.size + 1) V0 wr → BelowS (fun k => k = gm) (W.heap.size + 1) V0 (wr.setCell ⟨gm, x, none⟩ (.bool true))) := Lib.hid (fun wr x h => h.cell rfl x _)
  have HD : Hid (∀ wr : World, BelowS (fun k => k = gm) (W.heap.size + 1) V0 wr → BelowS (fun k => k = gm) (W.heap.size + 1) V0 wr.drew) := Lib.hid (fun wr h => h.trans (BelowS.of ((Below.refl _ wr).drew)))
  generalize V0.drew = V1 at *
  go_loopg [7, 8, 9] kl (fun n1 x7 x8 x9 wr => ∃ (pre : List Nat) (c : Int) (np : Nat), x7 = .int .i64 (lst pre) ∧ x8 = .int .i64 c ∧ x9 = .int .i64 (np : Int) ∧ np = pre.length ∧ Went F (i : Int) pre c ∧ (∀ y ∈ pre, y < kl) ∧ np + n1 = kl ∧ BelowS (fun k => k = gm) (W.heap.size + 1) V0 wr ∧ RowB wr gm kl (fun y => decide (y ∈ pre) || M y))
  case atStart =>
    refine ⟨[], a, 0, by go_num, by go_num, by go_num, rfl, ?_, (fun y hy => by cases hy), by omega, HV.out, ?_⟩
    · rw [HFA.out, show F.first i = F.first ((i : Int)).toNat by rw [toNat_cast]]; exact .start
    · simpa using HM2.out
  case round =>
    obtain ⟨pre, c, np, rfl, rfl, rfl, hnp, hw, hpl, hlen, hbv, hrow⟩ := hrel
    obtain ⟨hs1, b1, b2, b3, b4, b5⟩ := HQ.out wr hbv
    have x0 := hs1.a.at HI.out
    try dsimp only at x0
    rw [← HZA.out] at x0
    obtain ⟨q, hq⟩ : ∃ q : Int, q = lst pre := ⟨_, rfl⟩
    rw [← hq]
    have HL := Lib.hid hq; have HNP := Lib.hid hnp
    clear hq hnp
    by_cases hc1 : c = -1
    · have t1 : (c != -1) = false := by rw [hc1]; rfl
      rw [hc1] at hw
      have HW := Lib.hid hw; have HPL := Lib.hid hpl; have HBV := Lib.hid hbv; have HROW := Lib.hid hrow
      clear hw hpl hbv hrow hlen hs1 hc1
      cases t2 : (z == q)
      · have T2 := Lib.hid (beq_eq_false_iff_ne.1 t2)
        go_wp2_with fail
        go_ret
        exact ⟨false, pre, rfl, HOUT.out _ HBV.out, HROW.out, (fun h => by cases h), fun _ => by
          rintro ⟨L, hL, hl, _⟩
          rw [went_one hL HW.out, ← HL.out, ← HZA.out] at hl
          exact T2.out hl⟩
      · have T2 := Lib.hid (beq_iff_eq.1 t2)
        go_wp2_with fail
        go_ret
        exact ⟨true, pre, rfl, HOUT.out _ HBV.out, HROW.out, fun _ => ⟨HW.out, by rw [← HZA.out, ← HL.out, T2.out], HPL.out⟩, fun h => by cases h⟩
    · have t1 : (c != -1) = true := by rw [bne_iff_ne]; exact hc1
      have hbad : Hid (∀ h : ¬ Holds F kl i, HoldsPost F i kl gm M W (.returned (.bool false)) wr) := Lib.hid (fun h => ⟨false, pre, rfl, HOUT.out _ hbv, hrow, (fun h => by cases h), fun _ => h⟩)
      have HW := Lib.hid hw; have HPL := Lib.hid hpl; have HBV := Lib.hid hbv; have HROW := Lib.hid hrow; have HLEN := Lib.hid hlen; have HC1 := Lib.hid hc1
      by_cases hfull : np = kl
      · have t0 : ((np : Int) == (kl : Int)) = true := by rw [hfull]; exact beq_self_eq_true _
        have hp2 := Lib.hid (hbad.out (went_full HW.out HC1.out (by rw [← HNP.out, hfull]; exact Nat.le_refl _)))
        clear hw hpl hbv hrow hlen hs1 hc1 hfull hbad
        go_wp2_with fail
        go_ret
        exact hp2.out
      · have t0 : ((np : Int) == (kl : Int)) = false := beq_eq_false_iff_ne.2 (by omega)
        by_cases hneg : c < 0
        · have hp2 := Lib.hid (hbad.out (went_out HW.out HC1.out (.inl hneg)))
          clear hw hpl hbv hrow hlen hs1 hc1 hfull hbad
          go_wp2_with fail
          go_ret
          exact hp2.out
        · by_cases hbig : (kl : Int) ≤ c
          · have hp2 := Lib.hid (hbad.out (went_out HW.out HC1.out (.inr hbig)))
            clear hw hpl hbv hrow hlen hs1 hc1 hfull hbad
            go_wp2_with fail
            go_ret
            exact hp2.out
          · obtain ⟨x, rfl⟩ : ∃ x : Nat, c = (x : Int) := ⟨c.toNat, by omega⟩
            have hx : x < kl := by omega
            have hx0 : (0 : Int) ≤ x := by omega
            have hx1 : (x : Int) < kl := by omega
            have w1 : IntKind.i64.wrap ((np : Int) + 1) = ((np + 1 : Nat) : Int) := by rw [IntWalk.i64_in _ (by have := HK.out; omega)]; omega
            have y1 := hs1.l.at hx
            have y3 := hs1.p.at hx
            obtain ⟨m0, m1⟩ := hrow.get hx
            have hb2 := HB.out wr x hbv
            obtain ⟨hs2, d1, d2, d3, d4, d5⟩ := HQ.out _ hb2
            have y2 := hs2.n.at hx
            try dsimp only at y1 y2 y3
            obtain ⟨u1, hu1⟩ : ∃ u1 : Int, u1 = F.list x := ⟨_, rfl⟩
            obtain ⟨u2, hu2⟩ : ∃ u2 : Int, u2 = F.next x := ⟨_, rfl⟩
            obtain ⟨u3, hu3⟩ : ∃ u3 : Int, u3 = F.prev x := ⟨_, rfl⟩
            rw [← hu1] at y1; rw [← hu2] at y2; rw [← hu3] at y3
            have HX := Lib.hid hx
            have HU1 := Lib.hid hu1; have HU2 := Lib.hid hu2; have HU3 := Lib.hid hu3; have HB2 := Lib.hid hb2
            have HFULL := Lib.hid hfull
            clear hw hpl hbv hrow hlen hs1 hc1 hs2 hx hu1 hu2 hu3 hb2 b4 b5 d1 d3 d4 d5 x0 hfull
            cases t2 : (u1 != (i : Int))
            · have T2 := Lib.hid (by simpa using t2 : u1 = (i : Int))
              cases t3 : (u3 != q)
              · have T3 := Lib.hid (by simpa using t3 : u3 = q)
                obtain ⟨n', rfl⟩ : ∃ n', gk = n' + 1 := ⟨gk - 1, by have := HLEN.out; have := HFULL.out; omega⟩
                have hrel2 : Hid (∃ (pre2 : List Nat) (c2 : Int) (np2 : Nat), Value.int .i64 (x : Int) = .int .i64 (lst pre2) ∧ Value.int .i64 u2 = .int .i64 c2 ∧ Value.int .i64 ((np + 1 : Nat) : Int) = .int .i64 (np2 : Int) ∧ np2 = pre2.length ∧ Went F (i : Int) pre2 c2 ∧ (∀ y ∈ pre2, y < kl) ∧ np2 + n' = kl ∧ BelowS (fun k => k = gm) (W.heap.size + 1) V0 (wr.setCell ⟨gm, x, none⟩ (.bool true)).drew ∧ RowB (wr.setCell ⟨gm, x, none⟩ (.bool true)).drew gm kl (fun y => decide (y ∈ pre2) || M y)) := Lib.hid (by
                  have e1 : F.list x = (i : Int) := by rw [← HU1.out]; exact T2.out
                  refine ⟨pre ++ [x], u2, np + 1, by rw [lst_append, if_neg (by simp)]; rfl, rfl, rfl, by rw [HNP.out]; simp, ?_, ?_, ?_, HD.out _ HB2.out, ?_⟩
                  · rw [HU2.out]; exact .step HW.out e1 (by rw [← HU3.out, ← HL.out]; exact T3.out)
                  · intro y hy
                    rcases List.mem_append.1 hy with h | h
                    · exact HPL.out y h
                    · rw [List.mem_singleton.1 h]; exact HX.out
                  · have := HLEN.out; omega
                  · rw [← met_step]; exact (HROW.out.set true).block rfl)
                clear hbad
                go_wp2_with fail
                go_region
                go_wp2_with fail
                go_roundg n'
                case measure => omega
                case rel => exact hrel2.out
              · have hp2 := Lib.hid (hbad.out (fun ⟨L, hL, _⟩ => went_stuck HW.out (fun h => by rw [bne_iff_ne] at t3; exact t3 (by rw [HU3.out, HL.out]; exact h.2)) ⟨L, hL⟩))
                go_wp2_with fail
                go_ret
                exact hp2.out
            · have hp2 := Lib.hid (hbad.out (fun ⟨L, hL, _⟩ => went_stuck HW.out (fun h => by rw [bne_iff_ne] at t2; exact t2 (by rw [HU1.out]; exact h.1)) ⟨L, hL⟩))
              go_wp2_with fail
              go_ret
              exact hp2.out
end Go.Proofs.Ytmelcohfjonjfaa
