/- links: the reference's Get, Put, Where, Step, End, Len. links: the reference's Step. -/
import Derived.Test.YtmelcohfjonjfaaLrMove
namespace Go.Proofs.Ytmelcohfjonjfaa
open Go.RowKit

set_option maxHeartbeats 4000000 in
set_option maxRecDepth 100000 in
theorem rget_any {K : Nat → Prop} {base : Nat} {W : World} {C g gv cg cv n m : Nat} {v : Nat → Int} {of : Nat → List Nat} (h : LrSt K base W C g gv cg cv n m v of) (x : Int) :
    Calls Try.prog 28 #[.pointer (some ⟨C, 0, none⟩), .int .i64 x] W (OkEq (getW n m v of x) W) := by
  obtain ⟨c0, c1, c2⟩ := h.at_.cells
  have CD := find_at h x
  unfold getW
  rcases find_is h x with ⟨ew, ef⟩ | ⟨ew, k, i, rfl, hkn, hw, hi, hs, ef⟩
  · rw [ew, if_neg (by decide)]
    rw [ef] at CD
    unfold TwoI at CD
    have CD := Lib.hid CD
    clear h ew ef
    go_enter Try.func28, Try.ntmps28
    go_wp2_with fail
    refine CD.out.mono ?_
    rintro e w1 ⟨rfl, rfl⟩
    go_wp2_with fail
    go_ret2
    exact ⟨rfl, rfl⟩
  · rw [ew, if_pos rfl, toNat_cast]
    rw [ef] at CD
    unfold TwoI at CD
    generalize (((bef k (of i)).length : Nat) : Int) = N at CD
    have CD := Lib.hid CD
    obtain ⟨y0, y1⟩ := h.at_.vals.get hkn
    have i0 : ¬ (i : Int) < 0 := by omega
    have k0 : (0 : Int) ≤ k := by omega
    have k1 : (k : Int) < n := by omega
    clear h ew ef hs hw
    go_enter Try.func28, Try.ntmps28
    go_wp2_with fail
    refine CD.out.mono ?_
    rintro e w1 ⟨rfl, rfl⟩
    go_wp2_with fail
    go_ret2
    exact ⟨rfl, rfl⟩
set_option maxHeartbeats 4000000 in
set_option maxRecDepth 100000 in
theorem rwhere_any {K : Nat → Prop} {base : Nat} {W : World} {C g gv cg cv n m : Nat} {v : Nat → Int} {of : Nat → List Nat} (h : LrSt K base W C g gv cg cv n m v of) (x : Int) :
    Calls Try.prog 49 #[.pointer (some ⟨C, 0, none⟩), .int .i64 x] W (OkEq (whereW n m of x) W) := by
  have CD := find_at h x
  unfold whereW
  rcases find_is h x with ⟨ew, ef⟩ | ⟨ew, k, i, rfl, hkn, hw, hi, hs, ef⟩
  · rw [ew, if_neg (by decide)]
    rw [ef] at CD
    unfold TwoI at CD
    have CD := Lib.hid CD
    clear h ew ef
    go_enter Try.func49, Try.ntmps49
    go_wp2_with fail
    refine CD.out.mono ?_
    rintro e w1 ⟨rfl, rfl⟩
    go_wp2_with fail
    go_ret2
    exact ⟨rfl, rfl⟩
  · rw [ew, if_pos rfl, toNat_cast, hw]
    rw [ef] at CD
    unfold TwoI at CD
    generalize (((bef k (of i)).length : Nat) : Int) = N at CD
    have CD := Lib.hid CD
    have i0 : ¬ (i : Int) < 0 := by omega
    clear h ew ef hs hw
    go_enter Try.func49, Try.ntmps49
    go_wp2_with fail
    refine CD.out.mono ?_
    rintro e w1 ⟨rfl, rfl⟩
    go_wp2_with fail
    go_ret2
    exact ⟨rfl, rfl⟩
set_option maxHeartbeats 4000000 in
set_option maxRecDepth 100000 in
theorem rput_any {K : Nat → Prop} {base : Nat} {W : World} {C g gv cg cv n m : Nat} {v : Nat → Int} {of : Nat → List Nat} (h : LrSt K base W C g gv cg cv n m v of) (x z : Int) :
    Calls Try.prog 48 #[.pointer (some ⟨C, 0, none⟩), .int .i64 x, .int .i64 z] W (RPost K C g gv cg cv n m (putX n m v of x z) W) := by
  obtain ⟨c0, c1, c2⟩ := h.at_.cells
  have H := Lib.hid h
  have CD := find_at h x
  unfold putX
  rcases find_is h x with ⟨ew, ef⟩ | ⟨ew, k, i, rfl, hkn, hw, hi, hs, ef⟩
  · rw [ew, if_neg (by decide)]
    rw [ef] at CD
    unfold TwoI at CD
    have CD := Lib.hid CD
    clear h ew ef
    go_enter Try.func48, Try.ntmps48
    go_wp2_with fail
    refine CD.out.mono ?_
    rintro e w1 ⟨rfl, rfl⟩
    go_wp2_with fail
    go_ret
    exact ⟨rfl, H.out.at_, BelowS.refl _ _ _⟩
  · rw [ew, if_pos rfl, toNat_cast]
    rw [ef] at CD
    unfold TwoI at CD
    generalize (((bef k (of i)).length : Nat) : Int) = N at CD
    have CD := Lib.hid CD
    obtain ⟨y0, y1⟩ := h.at_.vals.get hkn
    have i0 : ¬ (i : Int) < 0 := by omega
    have k0 : (0 : Int) ≤ k := by omega
    have k1 : (k : Int) < n := by omega
    have HP := Lib.hid (h.at_.setVal h.ok hkn z); have HB := Lib.hid (belowV (g := g) (j := k) (BelowS.refl (LsS g gv) W.heap.size W) (.int .i64 z))
    clear h ew ef hs hw
    go_enter Try.func48, Try.ntmps48
    go_wp2_with fail
    refine CD.out.mono ?_
    rintro e w1 ⟨rfl, rfl⟩
    go_wp2_with fail
    go_ret
    exact ⟨rfl, HP.out, HB.out⟩
def lenW (m : Nat) (of : Nat → List Nat) (l : Int) : Value := if listE m l = 0 then TwoI ((of l.toNat).length : Int) 0 else TwoI 0 7
theorem listE_lt {m : Nat} {l : Int} (h : l < 0) : listE m l = 7 := if_pos (.inl h)
theorem listE_ge {m : Nat} {l : Int} (h : (m : Int) ≤ l) : listE m l = 7 := if_pos (.inr h)
theorem listE_in {m : Nat} {l : Int} (h1 : ¬ l < 0) (h2 : ¬ (m : Int) ≤ l) : listE m l = 0 := if_neg (by omega)
set_option maxHeartbeats 4000000 in
set_option maxRecDepth 100000 in
theorem rlen_any {K : Nat → Prop} {base : Nat} {W : World} {C g gv cg cv n m : Nat} {v : Nat → Int} {of : Nat → List Nat} (h : LrSt K base W C g gv cg cv n m v of) (l : Int) :
    Calls Try.prog 53 #[.pointer (some ⟨C, 0, none⟩), .int .i64 l] W (OkEq (lenW m of l) W) := by
  obtain ⟨c0, c1, c2⟩ := h.at_.cells
  unfold lenW
  by_cases h1 : l < 0
  · rw [listE_lt h1, if_neg (by decide)]
    clear h
    go_enter Try.func53, Try.ntmps53
    go_wp2_with fail
    go_ret2
    exact ⟨rfl, rfl⟩
  · by_cases h2 : (m : Int) ≤ l
    · rw [listE_ge h2, if_neg (by decide)]
      clear h
      go_enter Try.func53, Try.ntmps53
      go_wp2_with fail
      go_ret2
      exact ⟨rfl, rfl⟩
    · rw [listE_in h1 h2, if_pos rfl]
      obtain ⟨k, rfl⟩ : ∃ k : Nat, l = (k : Int) := ⟨l.toNat, by omega⟩
      rw [toNat_cast]
      obtain ⟨u, u0, _, hu⟩ := h.at_.row (j := k) (by omega)
      obtain ⟨p, c, rfl, hx⟩ := hu.form
      clear h hx hu
      generalize (of k).length = L at u0 ⊢
      go_enter Try.func53, Try.ntmps53
      go_wp2_with fail
      go_ret2
      exact ⟨rfl, rfl⟩
theorem natF_zero {a : Nat} {l : List Nat} : natF (a :: l) 0 = (a : Int) := rfl
theorem natF_mid (l r : List Nat) (a : Nat) : natF (l ++ a :: r) l.length = (a : Int) := by
  unfold natF
  rw [List.getD_eq_getElem?_getD, List.getElem?_append_right (Nat.le_refl _), Nat.sub_self]
  rfl
theorem natF_last {L : List Nat} (h : L ≠ []) : natF L (L.length - 1) = lst L := by
  obtain ⟨l, a, rfl⟩ : ∃ l a, L = l ++ [a] := ⟨L.dropLast, L.getLast h, (List.dropLast_concat_getLast h).symm⟩
  rw [lst_snoc, List.length_append, List.length_singleton, Nat.add_sub_cancel]
  exact natF_mid l [] a
set_option maxHeartbeats 4000000 in
set_option maxRecDepth 100000 in
theorem rEnd_any {K : Nat → Prop} {base : Nat} {W : World} {C g gv cg cv n m : Nat} {v : Nat → Int} {of : Nat → List Nat} (h : LrSt K base W C g gv cg cv n m v of) (l : Int) (front : Bool) :
    Calls Try.prog 52 #[.pointer (some ⟨C, 0, none⟩), .int .i64 l, .bool front] W (OkEq (endW m of l front) W) := by
  obtain ⟨c0, c1, c2⟩ := h.at_.cells
  unfold endW
  by_cases h1 : l < 0
  · rw [listE_lt h1, if_neg (by decide)]
    clear h
    go_enter Try.func52, Try.ntmps52
    go_wp2_with fail
    go_ret2
    exact ⟨rfl, rfl⟩
  · by_cases h2 : (m : Int) ≤ l
    · rw [listE_ge h2, if_neg (by decide)]
      clear h
      go_enter Try.func52, Try.ntmps52
      go_wp2_with fail
      go_ret2
      exact ⟨rfl, rfl⟩
    · rw [listE_in h1 h2, if_pos rfl]
      obtain ⟨k, rfl⟩ : ∃ k : Nat, l = (k : Int) := ⟨l.toNat, by omega⟩
      rw [toNat_cast]
      obtain ⟨u, u0, _, hu⟩ := h.at_.row (j := k) (by omega)
      obtain ⟨p, c, rfl, hx⟩ := hu.form
      have hl := h.len (i := k) (by omega)
      clear h hu
      generalize of k = L at u0 hx hl ⊢
      by_cases hL : L = []
      · subst hL
        have e : (if front = true then hd [] else lst []) = -1 := by cases front <;> rfl
        rw [e]
        have t1 : ((((([] : List Nat).length : Nat) : Int)) == 0) = true := rfl
        have t2 : ([] : List Nat).length = 0 := rfl
        rw [t2] at u0
        clear hx e
        go_enter Try.func52, Try.ntmps52
        go_wp2_with fail
        go_ret2
        exact ⟨rfl, rfl⟩
      · have hpos : 0 < L.length := List.length_pos_iff.2 hL
        have t1 : (((L.length : Nat) : Int) == 0) = false := beq_eq_false_iff_ne.2 (by omega)
        have f0 : natF L 0 = hd L := by cases L with
          | nil => exact absurd rfl hL
          | cons a L => rfl
        have f1 := natF_last hL
        obtain ⟨q, rfl, y0⟩ := hx 0 hpos
        obtain ⟨q', e', y1⟩ := hx (L.length - 1) (by omega)
        obtain rfl : q = q' := by simpa using e'
        rw [f0] at y0
        rw [f1] at y1
        have hn1 : ¬ hd L = -1 := fun e => hL (hd_none.1 e)
        have hn2 : ¬ lst L = -1 := fun e => hL (lst_none.1 e)
        have i1 : (0 : Int) < L.length := by omega
        have w1 : IntKind.i64.wrap ((L.length : Int) - 1) = ((L.length - 1 : Nat) : Int) := by rw [IntWalk.i64_in _ (by omega)]; omega
        have i2 : ((L.length - 1 : Nat) : Int) < L.length := by omega
        have i3 : (0 : Int) ≤ ((L.length - 1 : Nat) : Int) := by omega
        have X : orNone 4 (if front = true then hd L else lst L) = TwoI (if front = true then hd L else lst L) 0 := by
          unfold orNone; cases front
          · exact if_neg hn2
          · exact if_neg hn1
        rw [X]
        generalize hd L = a at y0
        generalize lst L = b at y1
        generalize L.length - 1 = N at y1 w1 i2 i3
        clear hx f0 f1 hn1 hn2 X e' hL hpos
        cases front
        all_goals
          go_enter Try.func52, Try.ntmps52
          go_wp2_with fail
          go_ret2
          exact ⟨rfl, rfl⟩
end Go.Proofs.Ytmelcohfjonjfaa
namespace Go.Proofs.Ytmelcohfjonjfaa
open Go.RowKit

/-- The place that Step looks at, and what it finds. -/
theorem step_pl {L l r : List Nat} {k : Nat} (hnd : L.Nodup) (hs : L = l ++ k :: r) (back : Bool) :
    ((if back = true then pv L k else nx L k) = -1 ∧ (if back = true then l.length = 0 else l.length + 1 = L.length)) ∨
    (∃ N : Nat, N < L.length ∧ (if back = true then l.length = N + 1 else N = l.length + 1) ∧ (if back = true then pv L k else nx L k) = natF L N ∧ natF L N ≠ -1) := by
  have hno : k ∉ l := fun hp => (List.nodup_append.1 (hs ▸ hnd)).2.2 k hp k (List.mem_cons_self ..) rfl
  cases back
  · have hnx : nx L k = hd r := by
      rw [hs, nx_append (hs ▸ hnd), if_neg hno]
      show (if k = k then _ else _) = _
      rw [if_pos rfl]
    cases r with
    | nil => exact .inl ⟨hnx, by show l.length + 1 = L.length; rw [hs]; simp⟩
    | cons b r =>
      have e : natF L (l.length + 1) = (b : Int) := by
        have := natF_mid (l ++ [k]) r b
        rw [List.length_append, List.length_singleton, List.append_assoc] at this
        rw [hs]; exact this
      refine .inr ⟨l.length + 1, by rw [hs]; simp, rfl, ?_, by rw [e]; omega⟩
      show nx L k = _
      rw [hnx, e]; rfl
  · have hpv : pv L k = lst l := by rw [hs, pv_first (hs ▸ hnd) (List.mem_cons_self ..) rfl]
    by_cases hl : l = []
    · exact .inl ⟨by show pv L k = -1; rw [hpv, hl]; rfl, by show l.length = 0; rw [hl]; rfl⟩
    · have hpos : 0 < l.length := List.length_pos_iff.2 hl
      have e : natF L (l.length - 1) = lst l := by
        rw [← natF_last hl]
        unfold natF
        rw [hs, List.getD_eq_getElem?_getD, List.getD_eq_getElem?_getD, List.getElem?_append_left (by omega)]
      have hne : lst l ≠ -1 := fun e => hl (lst_none.1 e)
      exact .inr ⟨l.length - 1, by rw [hs]; simp; omega, by show l.length = l.length - 1 + 1; omega, by show pv L k = _; rw [hpv, e], by rw [e]; exact hne⟩
set_option maxHeartbeats 4000000 in
set_option maxRecDepth 100000 in
theorem rstep_any {K : Nat → Prop} {base : Nat} {W : World} {C g gv cg cv n m : Nat} {v : Nat → Int} {of : Nat → List Nat} (h : LrSt K base W C g gv cg cv n m v of) (x : Int) (back : Bool) :
    Calls Try.prog 50 #[.pointer (some ⟨C, 0, none⟩), .int .i64 x, .bool back] W (OkEq (stepW n m of x back) W) := by
  obtain ⟨c0, c1, c2⟩ := h.at_.cells
  have CD := find_at h x
  unfold stepW
  rcases find_is h x with ⟨ew, ef⟩ | ⟨ew, k, i, rfl, hkn, hw, hi, hs, ef⟩
  · rw [ew, if_neg (by decide)]
    rw [ef] at CD
    unfold TwoI at CD
    have CD := Lib.hid CD
    clear h ew ef
    go_enter Try.func50, Try.ntmps50
    go_wp2_with fail
    refine CD.out.mono ?_
    rintro e w1 ⟨rfl, rfl⟩
    go_wp2_with fail
    go_ret2
    exact ⟨rfl, rfl⟩
  · rw [ew, if_pos rfl, toNat_cast, hw, toNat_cast]
    rw [ef] at CD
    unfold TwoI at CD
    have hnd : (of i).Nodup := by obtain ⟨F, hr⟩ := h.rep; exact hr.nodup i hi
    have hpl := step_pl hnd hs back
    obtain ⟨u, u0, _, hu⟩ := h.at_.row hi
    obtain ⟨p, c, rfl, hx⟩ := hu.form
    have hl := h.len hi
    have hNl : (bef k (of i)).length < (of i).length := by
      have := congrArg List.length hs
      simp at this; omega
    generalize (bef k (of i)).length = M at CD hpl hNl
    have CD := Lib.hid CD
    have i0 : ¬ (i : Int) < 0 := by omega
    have i1 : (0 : Int) ≤ i := by omega
    have i2 : (i : Int) < m := by omega
    have w1 : IntKind.i64.wrap ((M : Int) + 1) = (M : Int) + 1 := IntWalk.i64_in _ (by omega)
    have w2 : IntKind.i64.wrap ((M : Int) + 1 - 2) = (M : Int) - 1 := by rw [IntWalk.i64_in _ (by omega)]; omega
    clear h ew ef hs hw hnd hu
    generalize of i = L at u0 hx hl hNl hpl ⊢
    generalize (if back = true then pv L k else nx L k) = y at hpl ⊢
    rcases hpl with ⟨rfl, he⟩ | ⟨N, hN, he, rfl, hne⟩
    · rw [show orNone 9 (-1) = TwoI 0 9 from rfl]
      clear hx
      cases back
      · have t1 : (L.length : Int) ≤ (M : Int) + 1 := by have : M + 1 = L.length := he; omega
        have t0 : ¬ (M : Int) + 1 < 0 := by omega
        clear he
        go_enter Try.func50, Try.ntmps50
        go_wp2_with fail
        refine CD.out.mono ?_
        rintro e w1 ⟨rfl, rfl⟩
        go_wp2_with fail
        go_ret2
        exact ⟨rfl, rfl⟩
      · have t1 : (M : Int) - 1 < 0 := by have : M = 0 := he; omega
        clear he
        go_enter Try.func50, Try.ntmps50
        go_wp2_with fail
        refine CD.out.mono ?_
        rintro e w1 ⟨rfl, rfl⟩
        go_wp2_with fail
        go_ret2
        exact ⟨rfl, rfl⟩
    · obtain ⟨q, rfl, y0⟩ := hx N hN
      rw [show orNone 9 (natF L N) = TwoI (natF L N) 0 from if_neg hne]
      generalize natF L N = y at y0 hne ⊢
      have n0 : (0 : Int) ≤ N := by omega
      have n1 : (N : Int) < L.length := by omega
      have n2 : ¬ (N : Int) < 0 := by omega
      have n3 : ¬ (L.length : Int) ≤ (N : Int) := by omega
      clear hx hne
      cases back
      · have e1 : (M : Int) + 1 = (N : Int) := by have : N = M + 1 := he; omega
        replace w1 := w1.trans e1
        clear he e1 w2
        go_enter Try.func50, Try.ntmps50
        go_wp2_with fail
        refine CD.out.mono ?_
        rintro e w1 ⟨rfl, rfl⟩
        go_wp2_with fail
        go_ret2
        exact ⟨rfl, rfl⟩
      · have e1 : (M : Int) - 1 = (N : Int) := by have : M = N + 1 := he; omega
        rw [e1] at w2
        clear he e1
        go_enter Try.func50, Try.ntmps50
        go_wp2_with fail
        refine CD.out.mono ?_
        rintro e w1 ⟨rfl, rfl⟩
        go_wp2_with fail
        go_ret2
        exact ⟨rfl, rfl⟩
end Go.Proofs.Ytmelcohfjonjfaa
