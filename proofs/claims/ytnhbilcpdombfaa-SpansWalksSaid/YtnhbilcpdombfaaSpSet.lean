/- The reference's Set. -/
import Derived.Test.YtnhbilcpdombfaaSpMarks
import Derived.Test.YtnhbilcpdombfaaSpSets
namespace Go.Proofs.Ytnhbilcpdombfaa
open Go.RowKit

theorem ownsRow_set {W : World} {base : Nat} {e : TypeId} {size g n cap j : Nat} {xs : List Value} (u : Value) (h : W.ownsRow base e size (.slice (some ⟨g, 0, none⟩) n cap) n xs) :
    (W.setCell ⟨g, j, none⟩ u).ownsRow base e size (.slice (some ⟨g, 0, none⟩) n cap) n (xs.set j u) ∧ W.frozen? ⟨g, j, none⟩ = false ∧ base ≤ g := by
  rcases h.2 with ⟨h1, _⟩ | ⟨g', cap', cur, h1, hb, hg, hn, hc, hs, ht⟩
  · cases h1
  · cases h1
    refine ⟨⟨by rw [List.length_set]; exact h.1, .inr ⟨g, cap, cur.setIfInBounds j u, rfl, hb, heap_set u hg, hn, hc, by simpa using hs, ?_⟩⟩, row_free hg, hb⟩
    rw [← ht, Array.toList_setIfInBounds, List.take_set]
theorem SpC_len (L : List (Nat × Nat)) : (SpC L).length = L.length * 2 := by
  induction L with
  | nil => rfl
  | cons r L ih =>
    have e : SpC (r :: L) = .int .i64 (r.1 : Int) :: .int .i64 (r.2 : Int) :: SpC L := by simp [SpC]
    rw [e]; simp [ih]; omega
theorem SpC_set (L : List (Nat × Nat)) (x y z : Nat) : (SpC (L ++ [(x, y)])).set (L.length * 2 + 1) (.int .i64 (z : Int)) = SpC (L ++ [(x, z)]) := by
  rw [SpC_snoc, SpC_snoc, List.set_append_right _ _ (by rw [SpC_len]; omega), SpC_len]
  rw [show L.length * 2 + 1 - L.length * 2 = 1 by omega]; rfl
/-- The last span of a row of one's own. -/
theorem own_last {W : World} {base : Nat} {v : Value} {L : List (Nat × Nat)} {x y : Nat} (h : W.ownsRow base 31 2 v (L ++ [(x, y)]).length (SpC (L ++ [(x, y)]))) :
    ∃ g cap, v = .slice (some ⟨g, 0, none⟩) (L.length + 1) cap ∧ base ≤ g ∧ W.cell? ⟨g, L.length * 2 + 1, none⟩ = some (.int .i64 (y : Int)) ∧ W.frozen? ⟨g, L.length * 2 + 1, none⟩ = false ∧
      ∀ z : Nat, (W.setCell ⟨g, L.length * 2 + 1, none⟩ (.int .i64 (z : Int))).ownsRow base 31 2 v (L ++ [(x, z)]).length (SpC (L ++ [(x, z)])) := by
  rcases h.2 with ⟨_, h0⟩ | ⟨g, cap, cur, hv, hb, hg, _⟩
  · simp at h0
  · have hl : (L ++ [(x, y)]).length = L.length + 1 := by simp
    have hlz : ∀ z, (L ++ [(x, z)]).length = L.length + 1 := by simp
    rw [hl] at hv
    subst hv
    rw [hl] at h
    refine ⟨g, cap, rfl, hb, ?_, row_free hg, fun z => ?_⟩
    · have e1 : (SpC (L ++ [(x, y)]))[L.length * 2 + 1]? = some (.int .i64 (y : Int)) := by
        rw [SpC_snoc, List.getElem?_append_right (by rw [SpC_len]; omega), SpC_len, show L.length * 2 + 1 - L.length * 2 = 1 by omega]; rfl
      have c1 := h.cells (g := g) rfl (L.length * 2 + 1) _ e1
      rw [WideShapes.add_plain] at c1
      simpa using c1
    · rw [hlz, ← SpC_set L x y z]
      exact (ownsRow_set (j := L.length * 2 + 1) (.int .i64 (z : Int)) h).1
/-- What the rounds over the pages keep. -/
structure TInv (w W : World) (f : Nat → Bool) (k : Nat) (v : Value) : Prop where
  below : Below w.heap.size w W
  box : W.heap[w.heap.size]? = some (.cells (boolA f 1024) 69 (0, 0))
  row : W.ownsRow (w.heap.size + 1) 31 2 v (setF f k).length (SpC (setF f k))
theorem TInv.at_ {w W : World} {f : Nat → Bool} {k : Nat} {v : Value} (h : TInv w W f k v) {j : Nat} (hj : j < 1024) : W.cell? ⟨w.heap.size, j, none⟩ = some (.bool (f j)) := row_cell h.box (boolA_get f hj)
theorem TInv.lt {w W : World} {f : Nat → Bool} {k : Nat} {v : Value} (h : TInv w W f k v) : w.heap.size < W.heap.size := (Array.getElem?_eq_some_iff.1 h.box).1
theorem TInv.next {w W W' : World} {f : Nat → Bool} {k : Nat} {v v' : Value} (h : TInv w W f k v) (hb : Below (w.heap.size + 1) W W') (hr : W'.ownsRow (w.heap.size + 1) 31 2 v' (setF f (k + 1)).length (SpC (setF f (k + 1)))) : TInv w W' f (k + 1) v' :=
  ⟨h.below.trans (hb.mono (by omega)), (hb.block _ (by omega)).trans h.box, hr⟩
theorem setF_len (f : Nat → Bool) (k : Nat) : 2 * (setF f k).length ≤ k + 1 := (setF_ok f k).2.2
set_option maxHeartbeats 4000000 in
set_option maxRecDepth 100000 in
theorem rset_any (f : Nat → Bool) (w : World) :
    Calls Try.prog 50 #[.agg (boolA f 1024)] w (SpsPost (setF f 1024) w) := by
  obtain ⟨r, hr⟩ : ∃ r, r = setF f 1024 := ⟨_, rfl⟩
  rw [← hr]
  have HR := Lib.hid hr
  have HM := Lib.hid (show TInv w (w.alloc (.cells (boolA f 1024) 69)) f 0 (.slice none 0 0) from ⟨(Below.refl _ _).alloc (Nat.le_refl _) _, heap_alloc_new _ _, World.ownsRow_nil _ _ _ _⟩)
  clear hr
  obtain ⟨i0, hi, hz0, hz1, hz2⟩ := info_parts info_span
  have HIN := Lib.hid hi; have HZ0 := Lib.hid hz0; have HZ1 := Lib.hid hz1; have HZ2 := Lib.hid hz2
  clear hi hz0 hz1 hz2
  go_enter Try.func50, Try.ntmps50
  go_wp2_with fail
  go_loopg [3, 4] 1024 (fun n1 v p W => ∃ k : Nat, k + n1 = 1024 ∧ p = .int .i64 k ∧ TInv w W f k v)
  case atStart => exact ⟨0, by omega, by go_num, HM.out⟩
  case round =>
    clear HM
    obtain ⟨k, hkn, rfl, hinv⟩ := hrel
    have HI := Lib.hid hinv
    clear hinv
    have k0 : (0 : Int) ≤ k := by omega
    by_cases hlt : k < 1024
    · obtain ⟨n', rfl⟩ : ∃ n', gk = n' + 1 := ⟨gk - 1, by omega⟩
      have i1 : (k : Int) < 1024 := by omega
      have c0 := HI.out.at_ hlt
      have hno := setF_no f k
      have hnew := setF_new f k
      have hmore := setF_more f k
      have hln := setF_len f k
      cases hf : f k
      · rw [hf] at c0
        have HS := Lib.hid (hno hf)
        clear hno hnew hmore hf hln
        go_wp2_with fail
        go_roundg n'
        case measure => omega
        case rel => exact ⟨k + 1, by omega, by go_num, HI.out.next (Below.refl _ _) (by rw [HS.out]; exact HI.out.row)⟩
      · rw [hf] at c0
        by_cases hk0 : k = 0
        · subst hk0
          have hs := hnew hf (.inl rfl)
          have e0 : setF f 0 = [] := rfl
          rw [e0] at hs
          have hrow := HI.out.row
          rw [e0] at hrow
          have HS := Lib.hid hs; have HO := Lib.hid hrow
          have H1C := Lib.hid (two_onecell ((0 : Nat) : Int) 1)
          clear hno hnew hmore hf hln hs hrow e0
          go_wp2_with (at_builtin; refine wpList_append_own _ rfl _ _ 22 rfl (w.heap.size + 1) 31 i0 (.agg #[.int .i64 0, .int .i64 0]) 2 16 Try.underlying22 HIN.out HZ0.out HZ1.out HZ2.out rfl (by decide) _ _ _ rfl (HO.out.alloc _) ⟨wr.heap.size, 0, none⟩ 1 1 [.int .i64 ((0 : Nat) : Int), .int .i64 1] rfl rfl (cellB_two _ _ _ _ _ rfl) H1C.out (by decide) (by decide) (by have := HI.out.lt; simp; omega) ?_; intro v4 w4 hown4 hgrow4 hnil4)
          have hbb : Below (w.heap.size + 1) wr w4 := ((Below.refl _ _).alloc (by have := HI.out.lt; omega) _).grown hgrow4 (by have := HI.out.lt; simp; omega) (ownB_block HO.out)
          go_roundg n'
          case measure => omega
          case rel => exact ⟨0 + 1, by omega, by go_num, HI.out.next hbb (by rw [HS.out]; exact hown4)⟩
        · obtain ⟨j, hj⟩ : ∃ j, k = j + 1 := ⟨k - 1, by omega⟩
          have hj4 : j < 1024 := by omega
          have d0 := HI.out.at_ hj4
          obtain ⟨w1', w2', w3'⟩ := wrapN k j hj (by omega)
          have kp : (0 : Int) < k := by omega
          have j0 : (0 : Int) ≤ j := by omega
          have j1 : (j : Int) < 1024 := by omega
          have hkj : k - 1 = j := by omega
          rw [hkj] at hnew hmore
          cases hfj : f j
          · rw [hfj] at d0
            have hs := hnew hf (.inr hfj)
            obtain ⟨N, hN⟩ : ∃ N, N = (setF f k).length := ⟨_, rfl⟩
            have hrow := HI.out.row
            rw [← hN] at hrow hln
            have hb1 : N + 1 ≤ maxLen := by unfold maxLen; omega
            have hb2 : (N + 1) * 16 ≤ 140737488355328 := by omega
            have HS := Lib.hid hs; have HO := Lib.hid hrow; have HNN := Lib.hid hN
            have H1C := Lib.hid (two_onecell (k : Int) 1); have HX1 := Lib.hid hb1; have HX2 := Lib.hid hb2
            clear hno hnew hmore hf hfj hln hs hrow hj hkj hN hb1 hb2
            go_wp2_with (at_builtin; refine wpList_append_own _ rfl _ _ 22 rfl (w.heap.size + 1) 31 i0 (.agg #[.int .i64 0, .int .i64 0]) 2 16 Try.underlying22 HIN.out HZ0.out HZ1.out HZ2.out rfl (by decide) _ _ _ rfl (HO.out.alloc _) ⟨wr.heap.size, 0, none⟩ 1 1 [.int .i64 (k : Int), .int .i64 1] rfl rfl (cellB_two _ _ _ _ _ rfl) H1C.out HX1.out HX2.out (by have := HI.out.lt; simp; omega) ?_; intro v4 w4 hown4 hgrow4 hnil4)
            have hbb : Below (w.heap.size + 1) wr w4 := ((Below.refl _ _).alloc (by have := HI.out.lt; omega) _).grown hgrow4 (by have := HI.out.lt; simp; omega) (ownB_block HO.out)
            go_roundg n'
            case measure => omega
            case rel => exact ⟨k + 1, by omega, by go_num, HI.out.next hbb (by
              rw [HS.out, List.length_append, ← HNN.out, SpC_snoc]; exact hown4)⟩
          · rw [hfj] at d0
            obtain ⟨L, a, hL, hak, hs⟩ := hmore hf (by omega) hfj
            have hrow := HI.out.row
            rw [hL] at hrow hln
            obtain ⟨g, cap, rfl, hg, c5, f5, hst⟩ := own_last hrow
            obtain ⟨N, hN⟩ : ∃ N, N = L.length := ⟨_, rfl⟩
            have hst' := hst (k - a + 1)
            rw [← hN] at c5 f5 hst' ⊢
            obtain ⟨z, hz⟩ : ∃ z, z = k - a := ⟨_, rfl⟩
            rw [← hz] at c5 hst' hs
            have n4 : (N : Int) ≤ 4096 := by simp at hln; omega
            have n0 : (0 : Int) ≤ N := by omega
            have np : (0 : Int) < (N : Int) + 1 := by omega
            have z0 : (0 : Int) ≤ z := by omega
            have z4 : (z : Int) ≤ 4096 := by omega
            have hbs := Lib.hid (show ∀ v, Below (w.heap.size + 1) wr (wr.setCell ⟨g, N * 2 + 1, none⟩ v) from fun v => Below.setCell (p := ⟨g, N * 2 + 1, none⟩) (Below.refl _ _) hg v)
            have HS := Lib.hid hs; have HST := Lib.hid hst'
            clear hno hnew hmore hf hfj hln hs hrow hj hkj hN hst hst' hL hz hg
            go_wp2_with fail
            go_roundg n'
            case measure => omega
            case rel => exact ⟨k + 1, by omega, by go_num, HI.out.next (hbs.out _) (by rw [HS.out]; exact HST.out)⟩
    · obtain rfl : k = 1024 := by omega
      have hrow := ownsRow_base HI.out.row (Nat.le_succ w.heap.size)
      rw [← HR.out] at hrow
      have HRW := Lib.hid hrow; have HB := Lib.hid HI.out.below
      clear hrow HI
      go_wp2_with fail
      go_ret
      exact ⟨_, rfl, HB.out, HRW.out⟩
end Go.Proofs.Ytnhbilcpdombfaa
