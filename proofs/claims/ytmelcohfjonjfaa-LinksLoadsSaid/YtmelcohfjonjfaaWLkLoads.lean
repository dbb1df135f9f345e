/- links: the law LinksLoads. -/
import Derived.Test.YtmelcohfjonjfaaLcRLoad
namespace Go.Proofs.Ytmelcohfjonjfaa
open Go.RowKit

/-- A state that is more than is looked at. -/
def SP.far (s : SP) : Prop := (200 < s.kl ∧ s.kl ≤ 2000) ∨ 2100 < s.kl ∨ 2100 < s.kv ∨ 2100 < s.kn ∨ 2100 < s.kp ∨ 100 < s.kf ∨ 100 < s.ka
set_option maxHeartbeats 8000000 in
set_option maxRecDepth 100000 in
theorem loads_far {W : World} {s : SP} (h : s.far) : Calls Try.prog 4 #[s.val] W (TruePost W) := by
  have CA := Lib.hid awake_any
  have HB := Lib.hid ((Below.refl W.heap.size W).alloc (Nat.le_refl _) (.cells s.cells 39))
  obtain ⟨b0, b1, b2, b3, b4, b5⟩ := sp_box W s
  unfold SP.far at h
  unfold SP.val SP.cells at *
  generalize s.pv = pv at *; generalize s.pl = pl at *; generalize s.pn = pn at *; generalize s.pp = pp at *; generalize s.pf = pf at *; generalize s.pa = pa at *
  generalize s.kv = kv at *; generalize s.kl = kl at *; generalize s.kn = kn at *; generalize s.kp = kp at *; generalize s.kf = kf at *; generalize s.ka = ka at *
  generalize s.cv = cv at *; generalize s.cl = cl at *; generalize s.cn = cn at *; generalize s.cp = cp at *; generalize s.cf = cf at *; generalize s.ca = ca at *
  by_cases h1 : (200 : Int) < kl
  · by_cases h2 : (kl : Int) ≤ 2000
    · clear h
      go_enter Try.func4, Try.ntmps4
      go_wp2_with fail
      refine (CA.out _).mono ?_
      rintro e w1 ⟨rfl, hb⟩
      go_wp2_with fail
      go_ret
      exact ⟨rfl, HB.out.trans (hb.mono HB.out.size)⟩
    · by_cases h3 : (2100 : Int) < kl
      · clear h
        go_enter Try.func4, Try.ntmps4
        go_wp2_with fail
        refine (CA.out _).mono ?_
        rintro e w1 ⟨rfl, hb⟩
        go_wp2_with fail
        go_ret
        exact ⟨rfl, HB.out.trans (hb.mono HB.out.size)⟩
      · by_cases h4 : (2100 : Int) < kv
        · clear h
          go_enter Try.func4, Try.ntmps4
          go_wp2_with fail
          refine (CA.out _).mono ?_
          rintro e w1 ⟨rfl, hb⟩
          go_wp2_with fail
          go_ret
          exact ⟨rfl, HB.out.trans (hb.mono HB.out.size)⟩
        · by_cases h5 : (2100 : Int) < kn
          · clear h
            go_enter Try.func4, Try.ntmps4
            go_wp2_with fail
            refine (CA.out _).mono ?_
            rintro e w1 ⟨rfl, hb⟩
            go_wp2_with fail
            go_ret
            exact ⟨rfl, HB.out.trans (hb.mono HB.out.size)⟩
          · by_cases h6 : (2100 : Int) < kp
            · clear h
              go_enter Try.func4, Try.ntmps4
              go_wp2_with fail
              refine (CA.out _).mono ?_
              rintro e w1 ⟨rfl, hb⟩
              go_wp2_with fail
              go_ret
              exact ⟨rfl, HB.out.trans (hb.mono HB.out.size)⟩
            · by_cases h7 : (100 : Int) < kf
              · clear h
                go_enter Try.func4, Try.ntmps4
                go_wp2_with fail
                refine (CA.out _).mono ?_
                rintro e w1 ⟨rfl, hb⟩
                go_wp2_with fail
                go_ret
                exact ⟨rfl, HB.out.trans (hb.mono HB.out.size)⟩
              · have h8 : (100 : Int) < ka := by omega
                clear h
                go_enter Try.func4, Try.ntmps4
                go_wp2_with fail
                refine (CA.out _).mono ?_
                rintro e w1 ⟨rfl, hb⟩
                go_wp2_with fail
                go_ret
                exact ⟨rfl, HB.out.trans (hb.mono HB.out.size)⟩
  · have h3 : ¬ (2100 : Int) < kl := by omega
    by_cases h4 : (2100 : Int) < kv
    · clear h
      go_enter Try.func4, Try.ntmps4
      go_wp2_with fail
      refine (CA.out _).mono ?_
      rintro e w1 ⟨rfl, hb⟩
      go_wp2_with fail
      go_ret
      exact ⟨rfl, HB.out.trans (hb.mono HB.out.size)⟩
    · by_cases h5 : (2100 : Int) < kn
      · clear h
        go_enter Try.func4, Try.ntmps4
        go_wp2_with fail
        refine (CA.out _).mono ?_
        rintro e w1 ⟨rfl, hb⟩
        go_wp2_with fail
        go_ret
        exact ⟨rfl, HB.out.trans (hb.mono HB.out.size)⟩
      · by_cases h6 : (2100 : Int) < kp
        · clear h
          go_enter Try.func4, Try.ntmps4
          go_wp2_with fail
          refine (CA.out _).mono ?_
          rintro e w1 ⟨rfl, hb⟩
          go_wp2_with fail
          go_ret
          exact ⟨rfl, HB.out.trans (hb.mono HB.out.size)⟩
        · by_cases h7 : (100 : Int) < kf
          · clear h
            go_enter Try.func4, Try.ntmps4
            go_wp2_with fail
            refine (CA.out _).mono ?_
            rintro e w1 ⟨rfl, hb⟩
            go_wp2_with fail
            go_ret
            exact ⟨rfl, HB.out.trans (hb.mono HB.out.size)⟩
          · have h8 : (100 : Int) < ka := by omega
            clear h
            go_enter Try.func4, Try.ntmps4
            go_wp2_with fail
            refine (CA.out _).mono ?_
            rintro e w1 ⟨rfl, hb⟩
            go_wp2_with fail
            go_ret
            exact ⟨rfl, HB.out.trans (hb.mono HB.out.size)⟩
set_option maxHeartbeats 8000000 in
set_option maxRecDepth 100000 in
theorem loads_near {W : World} {s : SP} {v : Nat → Int} {F : LkF} (h : ¬ s.far) (hs : SPAt W s v F) : Calls Try.prog 4 #[s.val] W (TruePost W) := by
  obtain ⟨A, hA⟩ : ∃ A : Obj, A = .cells s.cells 39 := ⟨_, rfl⟩
  have sz1 : (W.alloc A).heap.size = W.heap.size + 1 := Array.size_push ..
  have B1 : Below W.heap.size W (W.alloc A) := (Below.refl _ W).alloc (Nat.le_refl _) A
  have e0 : (W.alloc A).heap[W.heap.size]? = some A := heap_alloc_new W A
  have hQ : ∀ V, Below (W.alloc A).heap.size (W.alloc A) V → SPAt V s v F ∧
      (V.cell? ⟨W.heap.size, 0, none⟩ = some (.slice s.pv s.kv s.cv) ∧ V.cell? ⟨W.heap.size, 1, none⟩ = some (.slice s.pl s.kl s.cl) ∧ V.cell? ⟨W.heap.size, 2, none⟩ = some (.slice s.pn s.kn s.cn) ∧ V.cell? ⟨W.heap.size, 3, none⟩ = some (.slice s.pp s.kp s.cp) ∧ V.cell? ⟨W.heap.size, 4, none⟩ = some (.slice s.pf s.kf s.cf) ∧ V.cell? ⟨W.heap.size, 5, none⟩ = some (.slice s.pa s.ka s.ca)) := by
    intro V hV
    have c0 := (hV.block W.heap.size (by omega)).trans e0
    rw [hA] at c0
    exact ⟨hs.below (B1.trans (hV.mono (by omega))), ⟨row_cell c0 rfl, row_cell c0 rfl, row_cell c0 rfl, row_cell c0 rfl, row_cell c0 rfl, row_cell c0 rfl⟩⟩
  have CA := Lib.hid awake_any
  have CK := Lib.hid (fun V hV => Check_any (hQ V hV).1)
  have CR := Lib.hid (fun V hV => rCheck_any (hQ V hV).1)
  have CL := Lib.hid (fun V hV => Load_any (hQ V hV).1)
  have CM := Lib.hid (fun V hV => rLoad_any (hQ V hV).1)
  have HQ := Lib.hid hQ
  obtain ⟨_, b0, b1, b2, b3, b4, b5⟩ := hQ _ (Below.refl _ _)
  have HB1 := Lib.hid B1
  have HR := Lib.hid (Below.refl (W.alloc A).heap.size (W.alloc A))
  unfold SP.far at h
  have h1 : (200 : Int) < s.kl → ¬ (s.kl : Int) ≤ 2000 := by omega
  have h2 : ¬ (2100 : Int) < s.kl := by omega
  have h3 : ¬ (2100 : Int) < s.kv := by omega
  have h4 : ¬ (2100 : Int) < s.kn := by omega
  have h5 : ¬ (2100 : Int) < s.kp := by omega
  have h6 : ¬ (100 : Int) < s.kf := by omega
  have h7 : ¬ (100 : Int) < s.ka := by omega
  clear hQ B1 sz1 e0 h hs
  unfold SP.val SP.cells at *
  by_cases h0 : (200 : Int) < s.kl
  all_goals
    try have h8 := h1 (by assumption)
    clear h1
    go_enter Try.func4, Try.ntmps4
    go_wp2_with fail
    rw [← hA]
    clear hA h2 h3 h4 h5 h6 h7 h0
    try clear h8
    generalize W.alloc A = W1 at *
    clear b0 b1 b2 b3 b4 b5
    refine (CK.out _ HR.out).mono ?_
    rintro e w1 ⟨a, b, rfl, hw1, hb1⟩
    have hV1 : Below W1.heap.size W1 (w1.alloc (.cells #[.int .i64 a, .int .i64 b] 49)) := hb1.alloc hb1.size _
    obtain ⟨_, b0, b1, b2, b3, b4, b5⟩ := HQ.out _ hV1
    have HV1 := Lib.hid hV1; have HW1 := Lib.hid hw1; have HX1 := Lib.hid (heap_alloc_new w1 (.cells #[.int .i64 a, .int .i64 b] 49))
    have HS1 : Hid (w1.heap.size < (w1.alloc (.cells #[.int .i64 a, .int .i64 b] 49)).heap.size) := Lib.hid (by rw [size1]; omega)
    clear hV1 hw1 hb1 CK
    unfold wrV
    go_wp2_with fail
    generalize w1.alloc (.cells #[.int .i64 a, .int .i64 b] 49) = V1 at *
    generalize w1.heap.size = g1 at *
    clear b0 b1 b2 b3 b4 b5
    refine (CR.out _ HV1.out).mono ?_
    rintro e w2 ⟨c, d, rfl, hw2, hb2⟩
    obtain ⟨e1, e2⟩ := HW1.out.uniq hw2
    subst e1 e2
    have hV2 : Below V1.heap.size V1 (w2.alloc (.cells #[.int .i64 a, .int .i64 b] 49)) := hb2.alloc hb2.size _
    have HV2 := Lib.hid (HV1.out.trans (hV2.mono HV1.out.size))
    have HX1' := Lib.hid ((hV2.block g1 HS1.out).trans HX1.out)
    have HX2 := Lib.hid (heap_alloc_new w2 (.cells #[.int .i64 a, .int .i64 b] 49))
    have HS2 : Hid (g1 < (w2.alloc (.cells #[.int .i64 a, .int .i64 b] 49)).heap.size ∧ w2.heap.size < (w2.alloc (.cells #[.int .i64 a, .int .i64 b] 49)).heap.size) := Lib.hid ⟨Nat.lt_of_lt_of_le HS1.out hV2.size, by rw [size1]; omega⟩
    obtain ⟨_, b0, b1, b2, b3, b4, b5⟩ := HQ.out _ HV2.out
    clear hw2 hb2 hV2 CR HX1 HS1
    unfold wrV
    go_wp2_with fail
    generalize w2.alloc (.cells #[.int .i64 a, .int .i64 b] 49) = V2 at *
    generalize w2.heap.size = g2 at *
    clear b0 b1 b2 b3 b4 b5
    refine (CL.out _ HV2.out).mono ?_
    rintro e w3 h3
    rcases h3 with ⟨a', b', ha, hw3, rfl, hb3⟩ | ⟨hw3, B, D, rfl, hP⟩
    · obtain ⟨e1, e2⟩ := HW1.out.uniq hw3
      subst e1 e2
      have HV3 := Lib.hid (HV2.out.trans (hb3.mono HV2.out.size))
      have HB3 := Lib.hid hb3; have HA := Lib.hid ha
      obtain ⟨_, b0, b1, b2, b3, b4, b5⟩ := HQ.out _ HV3.out
      clear ha hw3 hb3 CL
      go_wp2_with fail
      refine (CM.out _ HV3.out).mono ?_
      rintro e w4 h4
      rcases h4 with ⟨a', b', ha, hw4, rfl, hb4⟩ | ⟨hw4, _⟩
      · have hb5 : Below V2.heap.size V2 (w4.alloc (.cells #[.int .i64 0, .slice none 0 0, .slice none 0 0] 31)) := (HB3.out.trans (hb4.mono HB3.out.size)).alloc (Nat.le_trans HB3.out.size hb4.size) _
        have hx1 := (hb5.block _ HS2.out.1).trans HX1'.out
        have hx2 := (hb5.block _ HS2.out.2).trans HX2.out
        have x0 := row_cell (i := 0) hx1 rfl; have x1 := row_cell (i := 1) hx1 rfl; have y0 := row_cell (i := 0) hx2 rfl; have y1 := row_cell (i := 1) hx2 rfl
        have e0 : codeR a = 6 := if_neg HA.out
        rw [e0]
        have HB5 := Lib.hid (HB1.out.trans ((HV2.out.trans (hb5.mono HV2.out.size)).mono HB1.out.size))
        clear hw4 hb4 ha hb5 hx1 hx2 b0 b1 b2 b3 b4 b5 e0 CM
        go_wp2_with fail
        refine (CA.out _).mono ?_
        rintro e w6 ⟨rfl, hb⟩
        go_wp2_with fail
        go_ret
        exact ⟨rfl, HB5.out.trans (hb.mono HB5.out.size)⟩
      · exact absurd (HW1.out.uniq hw4).1 HA.out
    · obtain ⟨e1, e2⟩ := HW1.out.uniq hw3
      subst e1 e2
      have hb3 := hP.old
      have HV3 := Lib.hid (HV2.out.trans (hb3.mono HV2.out.size))
      have HB3 := Lib.hid hb3; have HP := Lib.hid hP
      obtain ⟨_, b0, b1, b2, b3, b4, b5⟩ := HQ.out _ HV3.out
      clear hw3 hb3 hP CL
      go_wp2_with fail
      refine (CM.out _ HV3.out).mono ?_
      rintro e w4 h4
      rcases h4 with ⟨a', b', ha, hw4, _⟩ | ⟨hw4, g, gv, cg, cv, of, vv, rfl, hof, hvv, hrow, hvals, hne, hglt, hb4⟩
      · exact absurd (HW1.out.uniq hw4).1.symm ha
      · have hnn := HP.out.pool.nn
        have hmm := HP.out.pool.mm
        have hb4' : Below w3.heap.size w3 (w4.alloc (.cells #[.int .i64 (s.kl : Int), .slice (some ⟨g, 0, none⟩) s.kf cg, .slice (some ⟨gv, 0, none⟩) s.kl cv] 31)) := hb4.alloc hb4.size _
        have hb5 : Below V2.heap.size V2 (w4.alloc (.cells #[.int .i64 (s.kl : Int), .slice (some ⟨g, 0, none⟩) s.kf cg, .slice (some ⟨gv, 0, none⟩) s.kl cv] 31)) := HB3.out.trans (hb4'.mono HB3.out.size)
        have hx1 := (hb5.block _ HS2.out.1).trans HX1'.out
        have hx2 := (hb5.block _ HS2.out.2).trans HX2.out
        have x0 := row_cell (i := 0) hx1 rfl; have x1 := row_cell (i := 1) hx1 rfl; have y0 := row_cell (i := 0) hx2 rfl; have y1 := row_cell (i := 1) hx2 rfl
        have e0 : codeR 0 = 0 := rfl
        rw [e0]
        have hbw : Below w4.heap.size w4 (w4.alloc (.cells #[.int .i64 (s.kl : Int), .slice (some ⟨g, 0, none⟩) s.kf cg, .slice (some ⟨gv, 0, none⟩) s.kl cv] 31)) := (Below.refl _ w4).alloc (Nat.le_refl _) _
        have hlsat : LsAt (fun q => q ≠ g ∧ q ≠ gv) (w4.alloc (.cells #[.int .i64 (s.kl : Int), .slice (some ⟨g, 0, none⟩) s.kf cg, .slice (some ⟨gv, 0, none⟩) s.kl cv] 31)) w4.heap.size g gv cg cv s.kl s.kf vv of := by
          obtain ⟨cur, r1, r2, r3⟩ := hrow
          refine ⟨heap_alloc_new w4 _, ⟨cur, (hbw.block g hglt).trans r1, r2, fun j hj => ?_⟩, hvals.below hbw hvals.lt, by omega, by have := hvals.lt; omega, hne⟩
          obtain ⟨u, hu, hk⟩ := r3 j hj
          exact ⟨u, hu, hk.keep hbw.size (fun q _ hq => hbw.block q hq)⟩
        have hpool : PoolS (w4.alloc (.cells #[.int .i64 (s.kl : Int), .slice (some ⟨g, 0, none⟩) s.kf cg, .slice (some ⟨gv, 0, none⟩) s.kl cv] 31)) B s.kl s.kf D (freeV v F s.kl) of := ⟨F, HP.out.pool.below hb4', hof⟩
        have HB5 := Lib.hid (HB1.out.trans ((HV2.out.trans (hb5.mono HV2.out.size)).mono HB1.out.size))
        have HLS := Lib.hid hlsat; have HOF := Lib.hid hof; have HVV := Lib.hid hvv; have HNN := Lib.hid hnn; have HMM := Lib.hid hmm
        have CS := Lib.hid (save_any hpool)
        clear hw4 hb4 hb5 hx1 hx2 b0 b1 b2 b3 b4 b5 e0 CM hof hvv hrow hvals hne hglt hnn hmm hb4' hbw hlsat hpool
        go_wp2_with fail
        generalize w4.alloc (.cells #[.int .i64 (s.kl : Int), .slice (some ⟨g, 0, none⟩) s.kf cg, .slice (some ⟨gv, 0, none⟩) s.kl cv] 31) = V4 at *
        generalize w4.heap.size = C at *
        clear x0 x1 y0 y1
        refine CS.out.mono ?_
        rintro e w5 ⟨D1, F1, rfl, hR1, hF1⟩
        have HS5 := Lib.hid hR1.rows.st; have HB6 := Lib.hid (HB5.out.trans (hR1.old.mono HB5.out.size)); have HF1 := Lib.hid hF1
        have hls : LsAt (fun q => q ≠ g ∧ q ≠ gv) w5 C g gv cg cv s.kl s.kf vv of := by
          have h := HLS.out
          have hlC := (Array.getElem?_eq_some_iff.1 h.box).1
          have hlg : g < V4.heap.size := by obtain ⟨cur, r1, _⟩ := h.rows; exact (Array.getElem?_eq_some_iff.1 r1).1
          exact h.keep hR1.old.size (hR1.old.block C hlC) (hR1.old.block g hlg) (hR1.old.block gv h.vals.lt) (fun q _ hq => hR1.old.block q hq)
        have CQ := Lib.hid (rsave_any hls HOF.out (fun i hi => by
          have := List.Nodup.length_le_of_subset (HOF.out.nodup i hi) (l₂ := List.range s.kl) (fun x hx => List.mem_range.2 (HOF.out.lt i hi x hx))
          have := HNN.out
          simp at *
          omega) HNN.out.2 HMM.out.2)
        clear hR1 hF1 hls CS
        unfold stV slc at HS5 ⊢
        go_wp2_with fail
        refine CQ.out.mono ?_
        rintro e w6 ⟨t, F2, rfl, hs2, hF2, hb2⟩
        have HB7 := Lib.hid (HB6.out.trans (hb2.mono HB6.out.size))
        have CE := Lib.hid (same_any (HS5.out.below hb2) (hs2.turn hF2 HF1.out (fun j hj => HVV.out j hj)) (by have := HNN.out; omega) (by have := HMM.out; omega))
        obtain ⟨a0, a1, a2, a3, a4, a5, rfl, _⟩ := hs2.ex
        clear hs2 hF2 hb2 CQ
        go_wp2_with fail
        refine CE.out.mono ?_
        rintro e w7 ⟨rfl, hb3⟩
        have HB8 := Lib.hid (HB7.out.trans (hb3.mono HB7.out.size))
        clear hb3 CE
        go_wp2_with fail
        refine (CA.out _).mono ?_
        rintro e w8 ⟨rfl, hb4⟩
        go_wp2_with fail
        go_ret
        exact ⟨rfl, HB8.out.trans (hb4.mono HB8.out.size)⟩
theorem loads_walk {W : World} {s : SP} {v : Nat → Int} {F : LkF} (hs : SPAt W s v F) : Calls Try.prog 4 #[s.val] W (TruePost W) := by
  by_cases h : s.far
  · exact loads_far h
  · exact loads_near h hs
end Go.Proofs.Ytmelcohfjonjfaa
