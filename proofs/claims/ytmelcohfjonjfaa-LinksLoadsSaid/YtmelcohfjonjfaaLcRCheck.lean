/- links: the reference's Check: the same answer as Check. -/
import Derived.Test.YtmelcohfjonjfaaLcLoad
import Derived.Test.YtmelcohfjonjfaaLcRList
import Derived.Test.YtmelcohfjonjfaaLcRSizes
import Derived.BigQuiet
import Derived.Deep.QuietTactic
namespace Go.Proofs.Ytmelcohfjonjfaa
open Go.RowKit

theorem ret_rcheck {tmps : Array Value} {w : World} {R : Nat} {a b : Value} (hp : tmps.getD 2 undef = .pointer (some ⟨R, 0, none⟩)) (hg : w.heap[R]? = some (.cells #[a, b] 49 (0, 0))) :
    (results Try.f22 tmps).run Try.prog w = .ok (.tuple #[.agg #[a, b], tmps.getD 3 undef]) w := by
  rw [results_cell_tmp rfl, hp]
  have h := run_loadVar_row (P := Try.prog) w R 49 49 #[a, b] (0, 0) _ hg Try.underlying49 rfl info_wrong
  simp [asAddr, h]
set_option maxHeartbeats 8000000 in
set_option maxRecDepth 100000 in
theorem rCheck_any {W : World} {s : SP} {v : Nat → Int} {F : LkF} (h : SPAt W s v F) : Calls Try.prog 22 #[s.val] W (CheckPost s F W) := by
  obtain ⟨A, hA⟩ : ∃ A : Obj, A = .cells s.cells 39 := ⟨_, rfl⟩
  obtain ⟨R, hR⟩ : ∃ R : Obj, R = .cells #[.int .i64 0, .int .i64 0] 49 := ⟨_, rfl⟩
  obtain ⟨W2, hW2⟩ : ∃ W2 : World, W2 = (W.alloc A).alloc R := ⟨_, rfl⟩
  have sz1 : (W.alloc A).heap.size = W.heap.size + 1 := Array.size_push ..
  have sz2 : W2.heap.size = W.heap.size + 2 := by rw [hW2]; exact (Array.size_push ..).trans (by rw [sz1])
  have B2 : Below W.heap.size W W2 := by rw [hW2]; exact ((Below.refl _ W).alloc (Nat.le_refl _) A).alloc (by rw [sz1]; omega) R
  have e0 : W2.heap[W.heap.size]? = some A := by
    rw [hW2]
    exact (((Below.refl (W.heap.size + 1) (W.alloc A)).alloc (by omega) R).block W.heap.size (by omega)).trans (heap_alloc_new W A)
  have e1 : W2.heap[W.heap.size + 1]? = some R := by
    rw [hW2]
    have := heap_alloc_new (W.alloc A) R
    rw [sz1] at this
    exact this
  have hQ : ∀ V, Below W2.heap.size W2 V → SPAt V s v F ∧
      (V.cell? ⟨W.heap.size, 0, none⟩ = some (.slice s.pv s.kv s.cv) ∧ V.cell? ⟨W.heap.size, 1, none⟩ = some (.slice s.pl s.kl s.cl) ∧ V.cell? ⟨W.heap.size, 2, none⟩ = some (.slice s.pn s.kn s.cn) ∧ V.cell? ⟨W.heap.size, 3, none⟩ = some (.slice s.pp s.kp s.cp) ∧ V.cell? ⟨W.heap.size, 4, none⟩ = some (.slice s.pf s.kf s.cf) ∧ V.cell? ⟨W.heap.size, 5, none⟩ = some (.slice s.pa s.ka s.ca)) ∧
      (V.cell? ⟨W.heap.size + 1, 0, none⟩ = some (.int .i64 0) ∧ V.cell? ⟨W.heap.size + 1, 1, none⟩ = some (.int .i64 0) ∧ V.frozen? ⟨W.heap.size + 1, 0, none⟩ = false ∧ V.frozen? ⟨W.heap.size + 1, 1, none⟩ = false) ∧ Below W.heap.size W V := by
    intro V hV
    have c0 := (hV.block W.heap.size (by omega)).trans e0
    have c1 := (hV.block (W.heap.size + 1) (by omega)).trans e1
    rw [hA] at c0
    rw [hR] at c1
    have hB := B2.trans (hV.mono (by omega))
    exact ⟨h.below hB, ⟨row_cell c0 rfl, row_cell c0 rfl, row_cell c0 rfl, row_cell c0 rfl, row_cell c0 rfl, row_cell c0 rfl⟩, ⟨row_cell c1 rfl, row_cell c1 rfl, row_free c1, row_free c1⟩, hB⟩
  have hF : ∀ V a b, Below W2.heap.size W2 V → ((V.setCell ⟨W.heap.size + 1, 0, none⟩ a).setCell ⟨W.heap.size + 1, 1, none⟩ b).heap[W.heap.size + 1]? = some (.cells #[a, b] 49 (0, 0)) ∧
      Below W.heap.size W ((V.setCell ⟨W.heap.size + 1, 0, none⟩ a).setCell ⟨W.heap.size + 1, 1, none⟩ b) := by
    intro V a b hV
    have c1 := (hV.block (W.heap.size + 1) (by omega)).trans e1
    rw [hR] at c1
    exact ⟨box2 a b c1, ((B2.trans (hV.mono (by omega))).setCell (by show W.heap.size ≤ W.heap.size + 1; omega) a).setCell (by show W.heap.size ≤ W.heap.size + 1; omega) b⟩
  have CS := Lib.hid (fun V => rsizes_any V s)
  have HQ := Lib.hid hQ; have HF := Lib.hid hF
  have HW2 := Lib.hid (Below.refl W2.heap.size W2)
  obtain ⟨_, ⟨b0, b1, b2, b3, b4, b5⟩, ⟨r0, r1, f0, f1⟩, _⟩ := hQ W2 (Below.refl _ _)
  have HWIN : Hid (∀ a b, WrongIs s.fits s.kl s.kf F a b → WrongIs s.fits s.kl s.kf F a b) := Lib.hid (fun a b h => h)
  have HSZ := Lib.hid sz2
  clear hQ hF e0 e1 B2 sz1 sz2 h
  cases ef : s.fits
  · have EF := Lib.hid ef
    rw [ef] at CS
    unfold SP.val SP.cells at *
    clear ef
    subst hA hR
    go_enter Try.func22, Try.ntmps22
    go_wp2_with fail
    rw [← hW2]
    clear hW2
    refine (CS.out _).mono ?_
    rintro e w1 ⟨rfl, hb⟩
    have HB := Lib.hid hb
    obtain ⟨_, ⟨b0, b1, b2, b3, b4, b5⟩, ⟨r0, r1, f0, f1⟩, _⟩ := HQ.out w1 hb
    clear hb
    go_wp2_with fail
    try simp only [Exit.inBlock, Exit.then]
    refine bodyPost_ret (ret_rcheck rfl (HF.out w1 _ _ HB.out).1) rfl ?_
    exact ⟨1, 0, rfl, .sizes EF.out, (HF.out w1 _ _ HB.out).2⟩
  · rw [ef] at CS
    obtain ⟨q1, q2, q3, q4, q5, q6⟩ := SP.fits_is ef
    have CLH : Hid (∀ V, Below W2.heap.size W2 V → ∀ gm M i, W2.heap.size ≤ gm → gm < V.heap.size → RowB V gm s.kl M → i < s.kf → Calls Try.prog 57 #[s.val, .int .i64 (i : Int), .slice (some ⟨gm, 0, none⟩) s.kl s.kl] V (HoldsPost F i s.kl gm M V)) :=
      Lib.hid (fun V hV gm M i hg hg2 hrow hi => rlist_any (fun V2 hV2 => (HQ.out V2 (hV.trans (hV2.below hV.size (fun k hk e => by omega)))).1) hrow hg2 q2 q3 q4 hi q5.1 q5.2)
    obtain ⟨gl, ol, el, _, _⟩ := (HQ.out W2 HW2.out).1.l 0 (by omega)
    obtain ⟨gn, on, en, _, _⟩ := (HQ.out W2 HW2.out).1.n 0 (by omega)
    obtain ⟨gp, op, ep, _, _⟩ := (HQ.out W2 HW2.out).1.p 0 (by omega)
    have MK := Lib.hid (fun V => made_bool V s.kl q5.2)
    have HN := Lib.hid q5; have HM := Lib.hid q6; have EF := Lib.hid ef
    have HQ2 : Hid (∀ V, Below W2.heap.size W2 V → ∀ j, j < s.kl → V.cell? ⟨gl, ol + j, none⟩ = some (.int .i64 (F.list j)) ∧ V.cell? ⟨gn, on + j, none⟩ = some (.int .i64 (F.next j)) ∧ V.cell? ⟨gp, op + j, none⟩ = some (.int .i64 (F.prev j))) := Lib.hid (fun V hV j hj => by
      have h := (HQ.out V hV).1
      have h1 := h.l; have h2 := h.n; have h3 := h.p
      rw [el] at h1; rw [en, q2] at h2; rw [ep, q3] at h3
      exact ⟨h1.at hj, h2.at hj, h3.at hj⟩)
    unfold SP.val SP.cells at *
    rw [el, en, ep, q2, q3] at CS CLH HQ hA
    rw [el, en, ep, q2, q3]
    rw [el] at b1; rw [en, q2] at b2; rw [ep, q3] at b3
    clear q1 q2 q3 q4 q5 q6 ef el en ep
    generalize s.pv = pv at *; generalize s.pf = pf at *; generalize s.pa = pa at *
    generalize s.cv = cv at *; generalize s.cl = cl at *; generalize s.cn = cn at *; generalize s.cp = cp at *; generalize s.cf = cf at *; generalize s.ca = ca at *
    generalize s.kv = kv at *; generalize s.ka = ka at *
    subst hA hR
    go_enter Try.func22, Try.ntmps22
    go_wp2_with fail
    rw [← hW2]
    clear hW2
    refine (CS.out _).mono ?_
    rintro e w1 ⟨rfl, hb⟩
    obtain ⟨_, ⟨b0, b1, b2, b3, b4, b5⟩, ⟨r0, r1, f0, f1⟩, _⟩ := HQ.out w1 hb
    have HB := Lib.hid hb
    clear hb CS
    go_wp2_with fail
    clear b0 b1 b2 b3 b4 b5 r0 r1 f0 f1
    go_loopg [5] s.kl (fun n1 i wr => ∃ k : Nat, i = .int .i64 (k : Int) ∧ k + n1 = s.kl ∧ SlotsOk s.kf s.kl F k ∧ Below W2.heap.size W2 wr)
    case atStart => exact ⟨0, by go_num, by omega, (fun j hj => absurd hj (by omega)), HB.out⟩
    case round =>
      obtain ⟨k, rfl, hkn, hso, hbv⟩ := hrel
      obtain ⟨wx, rfl⟩ : ∃ wx : World, wx = wr := ⟨_, rfl⟩
      by_cases hlt : k < s.kl
      · obtain ⟨n', rfl⟩ : ∃ n', gk = n' + 1 := ⟨gk - 1, by omega⟩
        have i1 : (k : Int) < s.kl := by omega
        have k0 : (0 : Int) ≤ k := by omega
        have w1 : IntKind.i64.wrap ((k : Int) + 1) = (k : Int) + 1 := IntWalk.i64_in _ (by have := HN.out; omega)
        obtain ⟨_, ⟨b0, b1, b2, b3, b4, b5⟩, ⟨r0, r1, f0, f1⟩, _⟩ := HQ.out wx hbv
        obtain ⟨x1, x2, x3⟩ := HQ2.out wx hbv k hlt
        have HSO := Lib.hid hso; have HLT := Lib.hid hlt
        have HBN : Hid (∀ nq : Nat, Below W2.heap.size W2 (wx.drewN nq)) := Lib.hid (fun nq => hbv.trans (drewB _ _ _))
        have HBAD : Hid (∀ h : ¬ SlotOk s.kf s.kl (F.list k) (F.next k) (F.prev k), WrongIs s.fits s.kl s.kf F 2 k) := Lib.hid (fun h => .slot k EF.out hlt hso h)
        have HGOOD : Hid (∀ h : SlotOk s.kf s.kl (F.list k) (F.next k) (F.prev k), SlotsOk s.kf s.kl F (k + 1)) := Lib.hid (fun h j hj => by
          by_cases e : j = k
          · rw [e]; exact h
          · exact hso j (by omega))
        generalize F.list k = a at x1 HBAD HGOOD
        generalize F.next k = b at x2 HBAD HGOOD
        generalize F.prev k = c at x3 HBAD HGOOD
        clear hso hbv
        go_wp2_with fail
        refine wp_region_quiet_lit (by kernel_rfl) (by kernel_rfl) ?_
        simp only [List.append]
        iterate 5 (go_big_quiet_step (fail))
        by_cases h0 : a < -1
        · have t0 : decide (a < -1) = true := decide_eq_true h0
          have HP := Lib.hid (HBAD.out (by rintro (e | e) <;> omega))
          repeat (go_big_quiet_step (fail))
          refine wpQuiet_nil ?_
          intro _ hw'
          obtain ⟨nq, rfl⟩ := hw'
          have HB := Lib.hid (HBN.out nq)
          go_wp2_with fail
          try simp only [Exit.inBlock, Exit.then]
          refine bodyPost_ret (ret_rcheck rfl (HF.out _ _ _ HB.out).1) rfl ?_
          exact ⟨2, k, rfl, HP.out, (HF.out _ _ _ HB.out).2⟩
        · have t0 : decide (a < -1) = false := decide_eq_false h0
          iterate 10 (go_big_quiet_step (fail))
          by_cases h1 : (s.kf : Int) ≤ a
          · have t1 : decide ((s.kf : Int) ≤ a) = true := decide_eq_true h1
            have HP := Lib.hid (HBAD.out (by rintro (e | e) <;> omega))
            repeat (go_big_quiet_step (fail))
            refine wpQuiet_nil ?_
            intro _ hw'
            obtain ⟨nq, rfl⟩ := hw'
            have HB := Lib.hid (HBN.out nq)
            go_wp2_with fail
            try simp only [Exit.inBlock, Exit.then]
            refine bodyPost_ret (ret_rcheck rfl (HF.out _ _ _ HB.out).1) rfl ?_
            exact ⟨2, k, rfl, HP.out, (HF.out _ _ _ HB.out).2⟩
          · have t1 : decide ((s.kf : Int) ≤ a) = false := decide_eq_false h1
            iterate 8 (go_big_quiet_step (fail))
            by_cases h2 : b < -1
            · have t2 : decide (b < -1) = true := decide_eq_true h2
              have HP := Lib.hid (HBAD.out (by rintro (e | e) <;> omega))
              repeat (go_big_quiet_step (fail))
              refine wpQuiet_nil ?_
              intro _ hw'
              obtain ⟨nq, rfl⟩ := hw'
              have HB := Lib.hid (HBN.out nq)
              go_wp2_with fail
              try simp only [Exit.inBlock, Exit.then]
              refine bodyPost_ret (ret_rcheck rfl (HF.out _ _ _ HB.out).1) rfl ?_
              exact ⟨2, k, rfl, HP.out, (HF.out _ _ _ HB.out).2⟩
            · have t2 : decide (b < -1) = false := decide_eq_false h2
              iterate 9 (go_big_quiet_step (fail))
              by_cases h3 : (s.kl : Int) ≤ b
              · have t3 : decide ((s.kl : Int) ≤ b) = true := decide_eq_true h3
                have HP := Lib.hid (HBAD.out (by rintro (e | e) <;> omega))
                repeat (go_big_quiet_step (fail))
                refine wpQuiet_nil ?_
                intro _ hw'
                obtain ⟨nq, rfl⟩ := hw'
                have HB := Lib.hid (HBN.out nq)
                go_wp2_with fail
                try simp only [Exit.inBlock, Exit.then]
                refine bodyPost_ret (ret_rcheck rfl (HF.out _ _ _ HB.out).1) rfl ?_
                exact ⟨2, k, rfl, HP.out, (HF.out _ _ _ HB.out).2⟩
              · have t3 : decide ((s.kl : Int) ≤ b) = false := decide_eq_false h3
                iterate 8 (go_big_quiet_step (fail))
                by_cases h4 : c < -1
                · have t4 : decide (c < -1) = true := decide_eq_true h4
                  have HP := Lib.hid (HBAD.out (by rintro (e | e) <;> omega))
                  repeat (go_big_quiet_step (fail))
                  refine wpQuiet_nil ?_
                  intro _ hw'
                  obtain ⟨nq, rfl⟩ := hw'
                  have HB := Lib.hid (HBN.out nq)
                  go_wp2_with fail
                  try simp only [Exit.inBlock, Exit.then]
                  refine bodyPost_ret (ret_rcheck rfl (HF.out _ _ _ HB.out).1) rfl ?_
                  exact ⟨2, k, rfl, HP.out, (HF.out _ _ _ HB.out).2⟩
                · have t4 : decide (c < -1) = false := decide_eq_false h4
                  iterate 9 (go_big_quiet_step (fail))
                  by_cases h5 : (s.kl : Int) ≤ c
                  · have t5 : decide ((s.kl : Int) ≤ c) = true := decide_eq_true h5
                    have HP := Lib.hid (HBAD.out (by rintro (e | e) <;> omega))
                    repeat (go_big_quiet_step (fail))
                    refine wpQuiet_nil ?_
                    intro _ hw'
                    obtain ⟨nq, rfl⟩ := hw'
                    have HB := Lib.hid (HBN.out nq)
                    go_wp2_with fail
                    try simp only [Exit.inBlock, Exit.then]
                    refine bodyPost_ret (ret_rcheck rfl (HF.out _ _ _ HB.out).1) rfl ?_
                    exact ⟨2, k, rfl, HP.out, (HF.out _ _ _ HB.out).2⟩
                  · have t5 : decide ((s.kl : Int) ≤ c) = false := decide_eq_false h5
                    iterate 8 (go_big_quiet_step (fail))
                    by_cases h6 : a = -1
                    · have t6 : (a == -1) = true := beq_iff_eq.2 h6
                      iterate 7 (go_big_quiet_step (fail))
                      by_cases h7 : b = -1
                      · have t7 : (b != -1) = false := by rw [h7]; rfl
                        iterate 7 (go_big_quiet_step (fail))
                        by_cases h8 : c = -1
                        · have t8 : (c != -1) = false := by rw [h8]; rfl
                          have HP := Lib.hid (HGOOD.out (by exact .inl ⟨h6, h7, h8⟩))
                          repeat (go_big_quiet_step (fail))
                          refine wpQuiet_nil ?_
                          intro _ hw'
                          obtain ⟨nq, rfl⟩ := hw'
                          have HB := Lib.hid (HBN.out nq)
                          go_wp2_with fail
                          go_roundg n'
                          case measure => omega
                          case rel => exact ⟨k + 1, by go_num, by omega, HP.out, HB.out⟩
                        · have t8 : (c != -1) = true := by rw [bne_iff_ne]; exact h8
                          have HP := Lib.hid (HBAD.out (by rintro (e | e) <;> omega))
                          repeat (go_big_quiet_step (fail))
                          refine wpQuiet_nil ?_
                          intro _ hw'
                          obtain ⟨nq, rfl⟩ := hw'
                          have HB := Lib.hid (HBN.out nq)
                          go_wp2_with fail
                          try simp only [Exit.inBlock, Exit.then]
                          refine bodyPost_ret (ret_rcheck rfl (HF.out _ _ _ HB.out).1) rfl ?_
                          exact ⟨2, k, rfl, HP.out, (HF.out _ _ _ HB.out).2⟩
                      · have t7 : (b != -1) = true := by rw [bne_iff_ne]; exact h7
                        have HP := Lib.hid (HBAD.out (by rintro (e | e) <;> omega))
                        repeat (go_big_quiet_step (fail))
                        refine wpQuiet_nil ?_
                        intro _ hw'
                        obtain ⟨nq, rfl⟩ := hw'
                        have HB := Lib.hid (HBN.out nq)
                        go_wp2_with fail
                        try simp only [Exit.inBlock, Exit.then]
                        refine bodyPost_ret (ret_rcheck rfl (HF.out _ _ _ HB.out).1) rfl ?_
                        exact ⟨2, k, rfl, HP.out, (HF.out _ _ _ HB.out).2⟩
                    · have t6 : (a == -1) = false := beq_eq_false_iff_ne.2 h6
                      have HP := Lib.hid (HGOOD.out (by exact .inr ⟨by omega, by omega, by omega⟩))
                      repeat (go_big_quiet_step (fail))
                      refine wpQuiet_nil ?_
                      intro _ hw'
                      obtain ⟨nq, rfl⟩ := hw'
                      have HB := Lib.hid (HBN.out nq)
                      go_wp2_with fail
                      go_roundg n'
                      case measure => omega
                      case rel => exact ⟨k + 1, by go_num, by omega, HP.out, HB.out⟩
      · obtain rfl : k = s.kl := by omega
        have HSO := Lib.hid hso; have HBV := Lib.hid hbv
        obtain ⟨_, ⟨b0, b1, b2, b3, b4, b5⟩, ⟨r0, r1, f0, f1⟩, _⟩ := HQ.out wx hbv
        have mk := MK.out wx
        have hb3 : Below W2.heap.size W2 (wx.alloc (.cells (Array.replicate s.kl (.bool false)) 4)) := hbv.trans ((Below.refl _ wx).alloc hbv.size _)
        have d4 := (HQ.out _ hb3).2.1.2.2.2.2.1
        have HRB := Lib.hid (rowB_new wx s.kl)
        have HB3 := Lib.hid hb3
        have HGM : Hid (W2.heap.size ≤ wx.heap.size) := Lib.hid hbv.size
        have HGM2 : Hid (wx.heap.size < (wx.alloc (.cells (Array.replicate s.kl (.bool false)) 4)).heap.size) := Lib.hid (by rw [show (wx.alloc (.cells (Array.replicate s.kl (.bool false)) 4)).heap.size = wx.heap.size + 1 from Array.size_push ..]; omega)
        clear hso hbv hlt hb3
        go_wp2_with fail
        clear b0 b1 b2 b3 b4 b5 r0 r1 f0 f1 mk d4 MK
        generalize wx.alloc (.cells (Array.replicate s.kl (.bool false)) 4) = W3 at HRB HB3 HGM2 ⊢
        generalize wx.heap.size = gm at HRB HGM HGM2 ⊢
        go_loopg [7] s.kf (fun n1 i wr => ∃ (k : Nat) (M : Nat → Bool), i = .int .i64 (k : Int) ∧ k + n1 = s.kf ∧ (∀ j, j < k → Holds F s.kl j) ∧ MetIs F s.kl k M ∧ RowB wr gm s.kl M ∧ gm < wr.heap.size ∧ Below W2.heap.size W2 wr)
        case atStart =>
          exact ⟨0, fun _ => false, by go_num, by omega, (fun j hj => absurd hj (by omega)), (fun x _ => ⟨(fun e => by cases e), (by rintro ⟨j, L, hj, _⟩; omega)⟩), HRB.out, HGM2.out, HB3.out⟩
        case round =>
          obtain ⟨k, M, rfl, hkn, hho, hmet, hrow, hgm, hbv⟩ := hrel
          obtain ⟨wx, rfl⟩ : ∃ wx : World, wx = wr := ⟨_, rfl⟩
          obtain ⟨_, ⟨b0, b1, b2, b3, b4, b5⟩, ⟨r0, r1, f0, f1⟩, _⟩ := HQ.out wx hbv
          by_cases hlt : k < s.kf
          · obtain ⟨n', rfl⟩ : ∃ n', gk = n' + 1 := ⟨gk - 1, by omega⟩
            have i1 : (k : Int) < s.kf := by omega
            have k0 : (0 : Int) ≤ k := by omega
            have w1 : IntKind.i64.wrap ((k : Int) + 1) = (k : Int) + 1 := IntWalk.i64_in _ (by have := HM.out; omega)
            have CX := Lib.hid (CLH.out wx hbv gm M k HGM.out hgm hrow hlt)
            have HHO := Lib.hid hho; have HMET := Lib.hid hmet; have HBV2 := Lib.hid hbv; have HLT := Lib.hid hlt; have HGT := Lib.hid hgm
            clear hho hmet hbv hrow hgm
            go_wp2_with fail
            refine CX.out.mono ?_
            rintro e w3 ⟨t, L, rfl, hb, hrow, ht1, ht2⟩
            have HB := Lib.hid (HBV2.out.trans (hb.below HBV2.out.size (fun q hq e => by have := HGM.out; omega)))
            have HGT3 := Lib.hid (Nat.lt_of_lt_of_le HGT.out hb.size)
            have HROW := Lib.hid hrow; have HT1 := Lib.hid ht1; have HT2 := Lib.hid ht2
            clear hb hrow ht1 ht2 b0 b1 b2 b3 b4 b5 r0 r1 f0 f1
            cases t
            · obtain ⟨_, ⟨b0, b1, b2, b3, b4, b5⟩, ⟨r0, r1, f0, f1⟩, _⟩ := HQ.out w3 HB.out
              go_wp2_with fail
              try simp only [Exit.inBlock, Exit.then]
              refine bodyPost_ret (ret_rcheck rfl (HF.out w3 _ _ HB.out).1) rfl ?_
              exact ⟨3, k, rfl, .list k EF.out HSO.out HLT.out HHO.out (HT2.out trivial), (HF.out w3 _ _ HB.out).2⟩
            · go_wp2_with fail
              go_roundg n'
              case measure => omega
              case rel => exact ⟨k + 1, _, by go_num, by omega, (fun j hj => by
                by_cases e : j = k
                · rw [e]; exact ⟨L, HT1.out trivial⟩
                · exact HHO.out j (by omega)), HMET.out.step (HT1.out trivial).1, HROW.out, HGT3.out, HB.out⟩
          · obtain rfl : k = s.kf := by omega
            have HHO := Lib.hid hho; have HMET := Lib.hid hmet; have HBV2 := Lib.hid hbv; have HROW := Lib.hid hrow
            clear hho hmet hbv hrow hgm hlt
            go_wp2_with fail
            go_loopg [8] s.kl (fun n1 i wr => ∃ k : Nat, i = .int .i64 (k : Int) ∧ k + n1 = s.kl ∧ (∀ j, j < k → MetOk F s.kl j) ∧ wr = wx)
            case atStart => exact ⟨0, by go_num, by omega, (fun j hj => absurd hj (by omega)), rfl⟩
            case round =>
              obtain ⟨j, rfl, hjn, hmo, rfl⟩ := hrel
              by_cases hlt : j < s.kl
              · obtain ⟨n', rfl⟩ : ∃ n', gk = n' + 1 := ⟨gk - 1, by omega⟩
                have i1 : (j : Int) < s.kl := by omega
                have k0 : (0 : Int) ≤ j := by omega
                have w1 : IntKind.i64.wrap ((j : Int) + 1) = (j : Int) + 1 := IntWalk.i64_in _ (by have := HN.out; omega)
                have y0 := (HQ2.out wr HBV2.out j hlt).1
                obtain ⟨m0, _⟩ := HROW.out.get hlt
                obtain ⟨u, hu⟩ : ∃ u : Int, u = F.list j := ⟨_, rfl⟩
                obtain ⟨c, hc⟩ : ∃ c : Bool, c = M j := ⟨_, rfl⟩
                rw [← hu] at y0
                rw [← hc] at m0
                have HU := Lib.hid hu; have HC := Lib.hid hc; have HMO := Lib.hid hmo; have HLT := Lib.hid hlt
                have HSTEP : Hid (∀ h : MetOk F s.kl j, ∀ q, q < j + 1 → MetOk F s.kl q) := Lib.hid (fun h q hq => by
                  by_cases e : q = j
                  · rw [e]; exact h
                  · exact HMO.out q (by omega))
                clear hu hc hmo hlt
                cases t1 : (u != -1)
                · have T1 : Hid (F.list j = -1) := Lib.hid (by rw [← HU.out]; simpa using t1)
                  have HS := Lib.hid (HSTEP.out (.inl T1.out))
                  go_wp2_with fail
                  go_roundg n'
                  case measure => omega
                  case rel => exact ⟨j + 1, by go_num, by omega, HS.out, rfl⟩
                · have T1 : Hid (F.list j ≠ -1) := Lib.hid (by rw [← HU.out]; simpa using t1)
                  have HOK := Lib.hid (HMET.out.ok HSO.out HHO.out HLT.out T1.out)
                  cases c
                  · have HN2 : Hid (¬ MetOk F s.kl j) := Lib.hid (fun h => by have := HOK.out.1 h; rw [← HC.out] at this; cases this)
                    go_wp2_with fail
                    try simp only [Exit.inBlock, Exit.then]
                    refine bodyPost_ret (ret_rcheck rfl (HF.out wr _ _ HBV2.out).1) rfl ?_
                    exact ⟨2, j, rfl, .met j EF.out HSO.out HHO.out HLT.out HMO.out HN2.out, (HF.out wr _ _ HBV2.out).2⟩
                  · have HS := Lib.hid (HSTEP.out (HOK.out.2 HC.out.symm))
                    go_wp2_with fail
                    go_roundg n'
                    case measure => omega
                    case rel => exact ⟨j + 1, by go_num, by omega, HS.out, rfl⟩
              · obtain rfl : j = s.kl := by omega
                have HMO := Lib.hid hmo
                clear hmo hlt
                go_wp2_with fail
                try simp only [Exit.inBlock, Exit.then]
                refine bodyPost_ret (ret_rcheck rfl (HF.out wr _ _ HBV2.out).1) rfl ?_
                exact ⟨0, 0, rfl, .none EF.out HSO.out HHO.out HMO.out, (HF.out wr _ _ HBV2.out).2⟩
end Go.Proofs.Ytmelcohfjonjfaa
