/- The reference's runs. -/
import Derived.Test.YtocgdibadcmnfaaDoorBrList
import Derived.Test.YtocgdibadcmnfaaDoorBtRunUniq
namespace Go.Proofs.YtocgdibadcmnfaaDoor
open Go.RowKit Go.Shelf

/-- Truth values lie where this address says. -/
def BoolsAt (W : World) (p : Option Addr) (f : Nat → Bool) (m : Nat) : Prop := 0 < m → ∃ g, p = some ⟨g, 0, none⟩ ∧ g < W.heap.size ∧ ∀ i, i < m → W.cell? ⟨g, i, none⟩ = some (.bool (f i))
theorem BoolsAt.below {W W' : World} {p : Option Addr} {f : Nat → Bool} {m : Nat} (h : BoolsAt W p f m) (hb : Below W.heap.size W W') : BoolsAt W' p f m := fun h0 => by
  obtain ⟨g, e, hg, hc⟩ := h h0
  exact ⟨g, e, Nat.lt_of_lt_of_le hg hb.size, fun j hj => (hb.cell (p := ⟨g, j, none⟩) hg).trans (hc j hj)⟩
theorem own_bools {w : World} {base m : Nat} {v : Value} {f : Nat → Bool} (h : w.ownsRow base 4 1 v m (boolC f m)) : ∃ p cap, v = .slice p m cap ∧ BoolsAt w p f m := by
  rcases h.2 with ⟨rfl, h0⟩ | ⟨g, cap, cur, rfl, hb, hg, _⟩
  · exact ⟨none, 0, by rw [h0], fun h => by omega⟩
  · refine ⟨some ⟨g, 0, none⟩, cap, rfl, fun _ => ⟨g, rfl, (Array.getElem?_eq_some_iff.1 hg).1, fun j hj => ?_⟩⟩
    have hc := h.cells (g := g) rfl j (.bool (f j)) (by simp [boolC, hj])
    rwa [WideShapes.add_plain, Nat.zero_add] at hc
theorem runC_len (L : List (Nat × Nat)) : (runC L).length = L.length * 2 := by
  induction L with
  | nil => rfl
  | cons r L ih => 
    have e : runC (r :: L) = .int .i64 (r.1 : Int) :: .int .i64 (r.2 : Int) :: runC L := by simp [runC]
    rw [e]; simp [ih]; omega
theorem runC_set (L : List (Nat × Nat)) (x y z : Nat) : (runC (L ++ [(x, y)])).set (L.length * 2 + 1) (.int .i64 (z : Int)) = runC (L ++ [(x, z)]) := by
  rw [runC_snoc, runC_snoc, List.set_append_right _ _ (by rw [runC_len]; omega), runC_len]
  rw [show L.length * 2 + 1 - L.length * 2 = 1 by omega]; rfl
theorem ownsRow_set {W : World} {base : Nat} {e : TypeId} {size g n cap j : Nat} {xs : List Value} (u : Value) (h : W.ownsRow base e size (.slice (some ⟨g, 0, none⟩) n cap) n xs) :
    (W.setCell ⟨g, j, none⟩ u).ownsRow base e size (.slice (some ⟨g, 0, none⟩) n cap) n (xs.set j u) ∧ W.frozen? ⟨g, j, none⟩ = false ∧ base ≤ g := by
  rcases h.2 with ⟨h1, _⟩ | ⟨g', cap', cur, h1, hb, hg, hn, hc, hs, ht⟩
  · cases h1
  · cases h1
    refine ⟨⟨by rw [List.length_set]; exact h.1, .inr ⟨g, cap, cur.setIfInBounds j u, rfl, hb, heap_set u hg, hn, hc, by simpa using hs, ?_⟩⟩, row_free hg, hb⟩
    rw [← ht, Array.toList_setIfInBounds, List.take_set]
set_option maxHeartbeats 4000000 in
set_option maxRecDepth 100000 in
theorem rruns_any (f : Nat → Bool) (on : Bool) (m : Nat) (p : Option Addr) (cap : Nat) (w : World) (hm : m ≤ 4096) (h : BoolsAt w p f m) :
    Calls Tryd.prog 65 #[.slice p m cap, .bool on] w fun e w' => ∃ v, e = .returned v ∧ Below w.heap.size w w' ∧ w'.ownsRow w.heap.size 53 2 v (runsL f on m 0).length (runC (runsL f on m 0)) := by
  have HW := Lib.hid h
  have m4 : (m : Int) ≤ 4096 := by omega
  clear h
  obtain ⟨i0, hi, hz0, hz1, hz2⟩ := info_parts info_btrun
  have HI := Lib.hid hi; have HZ0 := Lib.hid hz0; have HZ1 := Lib.hid hz1; have HZ2 := Lib.hid hz2
  clear hi hz0 hz1 hz2
  go_enter Tryd.func65, Tryd.ntmps65
  go_wp2_with fail
  go_loopg [5, 6] m (fun n v i wr => ∃ k : Nat, k + n = m ∧ i = .int .i64 k ∧ (∃ v', v' = v ∧ wr.ownsRow w.heap.size 53 2 v' (runsL f on k 0).length (runC (runsL f on k 0))) ∧ Below w.heap.size w wr)
  case atStart =>
    have e0 : runsL f on 0 0 = [] := by
      have s := runs_spec0 f on 0
      cases hL : runsL f on 0 0 with
      | nil => rfl
      | cons r t =>
        have g := s.run r (by rw [hL]; exact List.mem_cons_self ..)
        have := g.lt; have := g.hi; omega
    exact ⟨0, by omega, by go_num, ⟨_, rfl, by rw [e0]; exact World.ownsRow_nil _ _ _ _⟩, Below.refl _ _⟩
  case round =>
    obtain ⟨k, hkn, rfl, ⟨v, rfl, hown⟩, hbw⟩ := hrel
    obtain ⟨pr, cr, rfl, hra⟩ := own_runsAt hown
    obtain ⟨N, hN⟩ : ∃ N, N = (runsL f on k 0).length := ⟨_, rfl⟩
    rw [← hN] at hown ⊢
    have HO := Lib.hid hown; have HB := Lib.hid hbw; have HR := Lib.hid hra
    clear hown hbw hra
    by_cases hlt : k < m
    · obtain ⟨n', rfl⟩ : ∃ n', gk = n' + 1 := ⟨gk - 1, by omega⟩
      obtain ⟨g, rfl, hg, hc⟩ := (HW.out.below HB.out) (by omega)
      have c0 := hc k hlt
      have i1 : (k : Int) < m := by omega
      have k0 : (0 : Int) ≤ k := by omega
      have k4 : (k : Int) ≤ 4096 := by omega
      have hno := fun h => runs_no (f := f) (on := on) (m := k) h
      have hnew := fun h => runs_new (f := f) (on := on) (m := k) h
      have hext := fun x L h => runs_ext (f := f) (on := on) (m := k) (x := x) (L := L) h
      have hlast := fun L r => last_only (f := f) (on := on) (m := k) (L := L) (r := r)
      have hlen : N ≤ k + 1 := by rw [hN]; exact runsF_len _ _ _ _ _
      obtain ⟨L1, hL1⟩ : ∃ L1, L1 = runsL f on (k + 1) 0 := ⟨_, rfl⟩
      rw [← hL1] at hno hnew hext
      generalize runsL f on k 0 = L at *
      generalize f k = bt at *
      clear hc
      by_cases hon : bt = on
      · subst hon
        have t1 : (bt != bt) = false := by simp
        rcases List.eq_nil_or_concat L with rfl | ⟨L', r, rfl⟩
        · have hs := hnew rfl (by simp)
          obtain rfl : N = 0 := by simpa using hN
          have hb1 : 0 + 1 ≤ maxLen := by decide
          have hb2 : (0 + 1) * 16 ≤ 140737488355328 := by decide
          have HS := Lib.hid hs; have HL1 := Lib.hid hL1; have H1C := Lib.hid (run_onecell (k : Int) ((k : Int) + 1)); have HX1 := Lib.hid hb1; have HX2 := Lib.hid hb2
          clear hs hno hnew hext hlast hL1 hb1 hb2 hN hlen
          go_wp2_with (at_builtin; refine wpList_append_own _ rfl _ _ 41 rfl w.heap.size 53 i0 (.agg #[.int .i64 0, .int .i64 0]) 2 16 Tryd.underlying41 HI.out HZ0.out HZ1.out HZ2.out rfl (by decide) _ _ _ rfl (HO.out.alloc _) ⟨wr.heap.size, 0, none⟩ 1 1 [.int .i64 (k : Int), .int .i64 ((k : Int) + 1)] rfl rfl (cellB_two _ _ _ _ _ rfl) H1C.out HX1.out HX2.out (by have := HB.out.size; simp; omega) ?_; intro v4 w4 hown4 hgrow4 hnil4)
          have hbb : Below w.heap.size wr w4 := ((Below.refl _ _).alloc HB.out.size _).grown hgrow4 (by have := HB.out.size; simp; omega) (ownB_block HO.out)
          go_roundg n'
          case measure => omega
          case rel => exact ⟨k + 1, by omega, by go_num, ⟨v4, rfl, by rw [← HL1.out, HS.out]; exact hown4⟩, HB.out.trans hbb⟩
        · obtain ⟨x, y⟩ := r
          rw [List.concat_eq_append] at *
          obtain ⟨N', hN'⟩ : ∃ N', N' = L'.length := ⟨_, rfl⟩
          obtain rfl : N = N' + 1 := by rw [hN, hN']; simp
          obtain ⟨g', rfl, hg', hc'⟩ := HR.out (by simp)
          have c5 := (hc' N' (by simp; omega)).2
          rw [show ((L' ++ [(x, y)])[N']'(by simp; omega)) = (x, y) by simp [hN']] at c5
          have n0 : (0 : Int) ≤ N' := by omega
          have n4 : (N' : Int) ≤ 4096 := by omega
          have np : (0 : Int) < (N' : Int) + 1 := by omega
          by_cases hy : y = k
          · subst hy
            have hs := hext x L' rfl rfl
            have q1 : ((y : Int) == (y : Int)) = true := beq_self_eq_true _
            obtain ⟨_, f5, _⟩ := ownsRow_set (j := N' * 2 + 1) (.int .i64 ((y : Int) + 1)) HO.out
            have HS := Lib.hid hs; have HL1 := Lib.hid hL1; have HNN := Lib.hid hN'
            clear hs hno hnew hext hlast hL1 hN hlen hN' hc'
            go_wp2_with fail
            obtain ⟨o1, _, hb5⟩ := ownsRow_set (j := N' * 2 + 1) (.int .i64 ((y : Int) + 1)) HO.out
            have e3 := runC_set L' x y (y + 1)
            rw [← HNN.out, show ((y + 1 : Nat) : Int) = (y : Int) + 1 by omega] at e3
            rw [e3] at o1
            go_roundg n'
            case measure => omega
            case rel =>
              refine ⟨y + 1, by omega, by go_num, ⟨_, rfl, ?_⟩, HB.out.trans ((set_under _ _ _ _).mono hb5)⟩
              rw [← HL1.out, HS.out, List.length_append, ← HNN.out]
              exact o1
          · have hs := hnew rfl (hlast L' (x, y) rfl hy)
            have q1 : ((y : Int) == (k : Int)) = false := beq_eq_false_iff_ne.2 (by omega)
            have hb1 : N' + 1 + 1 ≤ maxLen := by unfold maxLen; omega
            have hb2 : (N' + 1 + 1) * 16 ≤ 140737488355328 := by omega
            have HS := Lib.hid hs; have HL1 := Lib.hid hL1; have H1C := Lib.hid (run_onecell (k : Int) ((k : Int) + 1)); have HX1 := Lib.hid hb1; have HX2 := Lib.hid hb2; have HNN := Lib.hid hN'
            clear hs hno hnew hext hlast hL1 hb1 hb2 hN hlen hN' hc'
            go_wp2_with (at_builtin; refine wpList_append_own _ rfl _ _ 41 rfl w.heap.size 53 i0 (.agg #[.int .i64 0, .int .i64 0]) 2 16 Tryd.underlying41 HI.out HZ0.out HZ1.out HZ2.out rfl (by decide) _ _ _ rfl (HO.out.alloc _) ⟨wr.heap.size, 0, none⟩ 1 1 [.int .i64 (k : Int), .int .i64 ((k : Int) + 1)] rfl rfl (cellB_two _ _ _ _ _ rfl) H1C.out HX1.out HX2.out (by have := HB.out.size; simp; omega) ?_; intro v4 w4 hown4 hgrow4 hnil4)
            have hbb : Below w.heap.size wr w4 := ((Below.refl _ _).alloc HB.out.size _).grown hgrow4 (by have := HB.out.size; simp; omega) (ownB_block HO.out)
            go_roundg n'
            case measure => omega
            case rel => exact ⟨k + 1, by omega, by go_num, ⟨v4, rfl, by rw [← HL1.out, HS.out, List.length_append, List.length_append, runC_snoc _ (k, k + 1), ← HNN.out]; exact hown4⟩, HB.out.trans hbb⟩
      · have hs := hno hon
        have HS := Lib.hid hs; have HL1 := Lib.hid hL1; have HN := Lib.hid hN
        have hcase : (bt = true ∧ on = false) ∨ (bt = false ∧ on = true) := by cases bt <;> cases on <;> simp_all
        clear hs hno hnew hext hlast hL1 hon hN
        rcases hcase with ⟨rfl, rfl⟩ | ⟨rfl, rfl⟩
        all_goals
          go_wp2_with fail
          go_roundg n'
          case measure => omega
          case rel => exact ⟨k + 1, by omega, by go_num, ⟨_, rfl, by rw [← HL1.out, HS.out, ← HN.out]; exact HO.out⟩, HB.out⟩
    · obtain rfl : k = m := by omega
      go_wp2_with fail
      go_ret
      exact ⟨_, rfl, HB.out, by rw [← hN]; exact HO.out⟩
end Go.Proofs.YtocgdibadcmnfaaDoor
