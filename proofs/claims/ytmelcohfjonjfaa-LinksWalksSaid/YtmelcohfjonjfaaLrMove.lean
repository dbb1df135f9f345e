/- links: the reference's After, Take, Move. -/
import Derived.Test.YtmelcohfjonjfaaLrPush
namespace Go.Proofs.Ytmelcohfjonjfaa
open Go.RowKit

theorem setOf_setOf (of : Nat → List Nat) (i : Nat) (l r : List Nat) : setOf (setOf of i l) i r = setOf of i r := by
  funext j; unfold setOf
  by_cases e : j = i
  · rw [if_pos e, if_pos e]
  · rw [if_neg e, if_neg e, if_neg e]
set_option maxHeartbeats 4000000 in
set_option maxRecDepth 100000 in
theorem rafter_any {K : Nat → Prop} {base : Nat} {W : World} {C g gv cg cv n m : Nat} {v : Nat → Int} {of : Nat → List Nat} (h : LrSt K base W C g gv cg cv n m v of) (x z : Int) :
    Calls Try.prog 47 #[.pointer (some ⟨C, 0, none⟩), .int .i64 x, .int .i64 z] W (RPost K C g gv cg cv n m (afterX n m v of x z) W) := by
  obtain ⟨c0, c1, c2⟩ := h.at_.cells
  have H := Lib.hid h
  have CD := find_at h x
  unfold afterX
  rcases find_is h x with ⟨ew, ef⟩ | ⟨ew, k, i, rfl, hkn, hw, hi, hs, ef⟩
  · rw [ew, if_neg (by decide)]
    rw [ef] at CD
    unfold TwoI at CD
    have CD := Lib.hid CD
    clear h ew ef
    go_enter Try.func47, Try.ntmps47
    go_wp2_with fail
    refine CD.out.mono ?_
    rintro e w1 ⟨rfl, rfl⟩
    go_wp2_with fail
    go_ret2
    exact ⟨rfl, H.out.at_, BelowS.refl _ _ _⟩
  · rw [ew, if_pos rfl, toNat_cast]
    simp only
    rw [hw, toNat_cast]
    rw [ef] at CD
    unfold TwoI at CD
    have CD := Lib.hid CD
    have CF := Lib.hid (free_at h)
    have i0 : ¬ (i : Int) < 0 := by omega
    have hlb : (bef k (of i)).length < 2000 := by
      have := h.len hi
      rw [hs] at this; simp at this; omega
    rcases freeS_cases n m of with e | ⟨s, e, hsn, _⟩
    · have hX : fillX n m v of z i (bef k (of i) ++ [k]) (beh k (of i)) = ⟨TwoI 0 5, v, of⟩ := by unfold fillX; rw [e]; rfl
      rw [hX]
      rw [e] at CF
      clear h ew ef hs hw e hX
      generalize (((bef k (of i)).length : Nat) : Int) = N at CD
      go_enter Try.func47, Try.ntmps47
      go_wp2_with fail
      refine CD.out.mono ?_
      rintro e w1 ⟨rfl, rfl⟩
      go_wp2_with fail
      refine CF.out.mono ?_
      rintro e w2 ⟨rfl, rfl⟩
      go_wp2_with fail
      go_ret2
      exact ⟨rfl, H.out.at_, BelowS.refl _ _ _⟩
    · rw [e] at CF
      have hX : fillX n m v of z i (bef k (of i) ++ [k]) (beh k (of i)) = ⟨TwoI (s : Int) 0, updF v s z, setOf of i (bef k (of i) ++ [k] ++ s :: beh k (of i))⟩ := by
        unfold fillX; rw [e, if_neg (ne_none s), toNat_cast]
      rw [hX]
      have CP := put_at h hi (l := bef k (of i) ++ [k]) (r := beh k (of i)) (by rw [List.append_assoc]; exact hs) s
      have s1 : ¬ (s : Int) < 0 := by omega
      have s0 : (0 : Int) ≤ s := by omega
      have s2 : (s : Int) < n := by omega
      rw [List.length_append, List.length_singleton] at CP
      generalize bef k (of i) ++ [k] ++ s :: beh k (of i) = R at CP
      generalize hN : (bef k (of i)).length = N at CD CP hlb
      have w1 : IntKind.i64.wrap ((N : Int) + 1) = ((N + 1 : Nat) : Int) := by rw [IntWalk.i64_in _ (by omega)]; omega
      have CP := Lib.hid CP
      clear h ew ef hs hw e hX hN
      go_enter Try.func47, Try.ntmps47
      go_wp2_with fail
      refine CD.out.mono ?_
      rintro e w1 ⟨rfl, rfl⟩
      go_wp2_with fail
      refine CF.out.mono ?_
      rintro e w2 ⟨rfl, rfl⟩
      go_wp2_with fail
      refine CP.out.mono ?_
      rintro e w3 ⟨rfl, P, Bw⟩
      obtain ⟨d0, d1, d2⟩ := P.cells
      obtain ⟨y0, y1⟩ := P.vals.get hsn
      have HP := Lib.hid (P.setVal H.out.ok hsn z); have HB := Lib.hid (belowV (j := s) Bw (.int .i64 z))
      clear P Bw c0 c1 c2
      go_wp2_with fail
      go_ret2
      exact ⟨rfl, HP.out, HB.out⟩
set_option maxHeartbeats 4000000 in
set_option maxRecDepth 100000 in
theorem rtake_any {K : Nat → Prop} {base : Nat} {W : World} {C g gv cg cv n m : Nat} {v : Nat → Int} {of : Nat → List Nat} (h : LrSt K base W C g gv cg cv n m v of) (x : Int) :
    Calls Try.prog 30 #[.pointer (some ⟨C, 0, none⟩), .int .i64 x] W (RPost K C g gv cg cv n m (takeX n m v of x) W) := by
  obtain ⟨c0, c1, c2⟩ := h.at_.cells
  have H := Lib.hid h
  have CD := find_at h x
  unfold takeX
  rcases find_is h x with ⟨ew, ef⟩ | ⟨ew, k, i, rfl, hkn, hw, hi, hs, ef⟩
  · rw [ew, if_neg (by decide)]
    rw [ef] at CD
    unfold TwoI at CD
    have CD := Lib.hid CD
    clear h ew ef
    go_enter Try.func30, Try.ntmps30
    go_wp2_with fail
    refine CD.out.mono ?_
    rintro e w1 ⟨rfl, rfl⟩
    go_wp2_with fail
    go_ret2
    exact ⟨rfl, H.out.at_, BelowS.refl _ _ _⟩
  · rw [ew, if_pos rfl, toNat_cast]
    simp only
    rw [hw, toNat_cast]
    rw [ef] at CD
    unfold TwoI at CD
    have CD := Lib.hid CD
    have i0 : ¬ (i : Int) < 0 := by omega
    have k0 : (0 : Int) ≤ k := by omega
    have k1 : (k : Int) < n := by omega
    have CP := cut_at2 h hi hs
    generalize bef k (of i) ++ beh k (of i) = R at CP
    generalize (((bef k (of i)).length : Nat) : Int) = N at CD CP
    have CP := Lib.hid CP
    clear h ew ef hs hw
    go_enter Try.func30, Try.ntmps30
    go_wp2_with fail
    refine CD.out.mono ?_
    rintro e w1 ⟨rfl, rfl⟩
    go_wp2_with fail
    refine CP.out.mono ?_
    rintro e w3 ⟨rfl, P, Bw⟩
    obtain ⟨d0, d1, d2⟩ := P.cells
    obtain ⟨y0, y1⟩ := P.vals.get hkn
    have HP := Lib.hid (P.setVal H.out.ok hkn 0); have HB := Lib.hid (belowV (j := k) Bw (.int .i64 0))
    clear P Bw c0 c1 c2
    go_wp2_with fail
    go_ret2
    exact ⟨rfl, HP.out, HB.out⟩
theorem LrSt.next {K : Nat → Prop} {base : Nat} {W W' : World} {C g gv cg cv n m : Nat} {v v' : Nat → Int} {of of' : Nat → List Nat} (h : LrSt K base W C g gv cg cv n m v of) (hl : LsAt K W' C g gv cg cv n m v' of') (hs : W.heap.size ≤ W'.heap.size) (hr : ∃ F, Rep n m of' F) : LrSt K base W' C g gv cg cv n m v' of' :=
  ⟨hl, h.ok, Nat.le_trans h.bs hs, h.nn, h.mm, hr⟩
theorem move_put {K : Nat → Prop} {base : Nat} {W : World} {C g gv cg cv n m : Nat} {v : Nat → Int} {of : Nat → List Nat} (h : LrSt K base W C g gv cg cv n m v of) {t : Nat} (ht : t < m) (k : Nat) (front : Bool) :
    ∃ N : Nat, Calls Try.prog 67 #[.pointer (some ⟨C, 0, none⟩), .int .i64 (t : Int), .bool front] W (OkEq (.int .i64 (N : Int)) W) ∧
      Calls Try.prog 66 #[.pointer (some ⟨C, 0, none⟩), .int .i64 (t : Int), .int .i64 (N : Int), .int .i64 (k : Int)] W (LsPost K C g gv cg cv n m v (setOf of t (if front = true then k :: of t else of t ++ [k])) W) := by
  cases front with
  | false => exact ⟨(of t).length, rend_any h.at_ ht false, put_at h ht (l := of t) (r := []) (List.append_nil _).symm k⟩
  | true => exact ⟨0, rend_any h.at_ ht true, put_at h ht (l := []) (r := of t) rfl k⟩
set_option maxHeartbeats 4000000 in
set_option maxRecDepth 100000 in
theorem rmove_any {K : Nat → Prop} {base : Nat} {W : World} {C g gv cg cv n m : Nat} {v : Nat → Int} {of : Nat → List Nat} (h : LrSt K base W C g gv cg cv n m v of) (x l : Int) (front : Bool) :
    Calls Try.prog 32 #[.pointer (some ⟨C, 0, none⟩), .int .i64 x, .int .i64 l, .bool front] W (RPost K C g gv cg cv n m (moveX n m v of x l front) W) := by
  obtain ⟨c0, c1, c2⟩ := h.at_.cells
  have H := Lib.hid h
  have CD := find_at h x
  unfold moveX
  rcases find_is h x with ⟨ew, ef⟩ | ⟨ew, k, i, rfl, hkn, hw, hi, hs, ef⟩
  · rw [ew, if_neg (by decide)]
    rw [ef] at CD
    unfold TwoI at CD
    have CD := Lib.hid CD
    clear h ew ef
    go_enter Try.func32, Try.ntmps32
    go_wp2_with fail
    refine CD.out.mono ?_
    rintro e w1 ⟨rfl, rfl⟩
    go_wp2_with fail
    go_ret
    exact ⟨rfl, H.out.at_, BelowS.refl _ _ _⟩
  · rw [ew, if_pos rfl, toNat_cast]
    simp only
    rw [hw, toNat_cast]
    rw [ef] at CD
    unfold TwoI at CD
    have CD := Lib.hid CD
    have i0 : ¬ (i : Int) < 0 := by omega
    by_cases h1 : l < 0
    · rw [show listE m l = 7 from if_pos (.inl h1), if_neg (by decide)]
      generalize (((bef k (of i)).length : Nat) : Int) = N at CD
      clear h ew ef hs hw
      go_enter Try.func32, Try.ntmps32
      go_wp2_with fail
      refine CD.out.mono ?_
      rintro e w1 ⟨rfl, rfl⟩
      go_wp2_with fail
      go_ret
      exact ⟨rfl, H.out.at_, BelowS.refl _ _ _⟩
    · by_cases h2 : (m : Int) ≤ l
      · rw [show listE m l = 7 from if_pos (.inr h2), if_neg (by decide)]
        generalize (((bef k (of i)).length : Nat) : Int) = N at CD
        clear h ew ef hs hw
        go_enter Try.func32, Try.ntmps32
        go_wp2_with fail
        refine CD.out.mono ?_
        rintro e w1 ⟨rfl, rfl⟩
        go_wp2_with fail
        go_ret
        exact ⟨rfl, H.out.at_, BelowS.refl _ _ _⟩
      · rw [show listE m l = 0 from if_neg (by omega), if_pos rfl]
        obtain ⟨t, rfl⟩ : ∃ t : Nat, l = (t : Int) := ⟨l.toNat, by omega⟩
        rw [toNat_cast]
        have ht : t < m := by omega
        have CP := cut_at2 h hi hs
        have hrep : ∃ F, Rep n m (setOf of i (bef k (of i) ++ beh k (of i))) F := by
          obtain ⟨F, hr⟩ := h.rep
          exact ⟨_, rep_unlink hr hi hs⟩
        generalize bef k (of i) ++ beh k (of i) = R at CP hrep ⊢
        generalize (((bef k (of i)).length : Nat) : Int) = N at CD CP
        have CP := Lib.hid CP
        clear h ew ef hs hw
        unfold movedOf
        generalize setOf of i R = of2 at CP hrep ⊢
        obtain ⟨R2, hR2⟩ : ∃ R2, R2 = (if front = true then k :: of2 t else of2 t ++ [k]) := ⟨_, rfl⟩
        rw [← hR2]
        have HR2 := Lib.hid hR2
        clear hR2
        go_enter Try.func32, Try.ntmps32
        go_wp2_with fail
        refine CD.out.mono ?_
        rintro e w1 ⟨rfl, rfl⟩
        go_wp2_with fail
        refine CP.out.mono ?_
        rintro e w3 ⟨rfl, P, Bw⟩
        have h3 := H.out.next P Bw.size hrep
        have HB := Lib.hid Bw
        clear P Bw c0 c1 c2
        obtain ⟨M, hCE, hCQ⟩ := move_put h3 ht k front
        rw [HR2.out.symm] at hCQ
        have CE := Lib.hid hCE; have CQ := Lib.hid hCQ
        clear hCE hCQ h3
        go_wp2_with fail
        refine CE.out.mono ?_
        rintro e w4 ⟨rfl, rfl⟩
        go_wp2_with fail
        refine CQ.out.mono ?_
        rintro e w5 ⟨rfl, P, Bw⟩
        have HP := Lib.hid P; have HB2 := Lib.hid (HB.out.trans (Bw.less HB.out.size))
        clear P Bw
        go_wp2_with fail
        go_ret
        exact ⟨rfl, HP.out, HB2.out⟩
end Go.Proofs.Ytmelcohfjonjfaa
