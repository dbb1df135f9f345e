/- links: the reference's Step. -/
import Derived.Test.YtnbniflljbbpbaaLrReads
namespace Go.Proofs.Ytnbniflljbbpbaa
open Go.RowKit

/-- The place that Step looks at, and what it finds. -/
theorem step_pl {L l r : List Nat} {k : Nat} (hnd : L.Nodup) (hs : L = l ++ k :: r) (back : Bool) :
    ((if back = true then pv L k else nx L k) = -1 ∧ (if back = true then l.length = 0 else l.length + 1 = L.length)) ∨
    (∃ N : Nat, N < L.length ∧ (if back = true then l.length = N + 1 else N = l.length + 1) ∧ (if back = true then pv L k else nx L k) = natF L N ∧ natF L N ≠ -1) := by
  have hno : k ∉ l := fun hp => (List.nodup_append.1 (hs ▸ hnd)).2.2 k hp k (List.mem_cons_self ..) rfl
  cases back
  · have hnx : nx L k = hd r := by
      rw [hs, nx_append (hs ▸ hnd), if_neg hno]
      show (if k = k then _ else _) = _
      rw [if_pos rfl]
    cases r with
    | nil => exact .inl ⟨hnx, by show l.length + 1 = L.length; rw [hs]; simp⟩
    | cons b r =>
      have e : natF L (l.length + 1) = (b : Int) := by
        have := natF_mid (l ++ [k]) r b
        rw [List.length_append, List.length_singleton, List.append_assoc] at this
        rw [hs]; exact this
      refine .inr ⟨l.length + 1, by rw [hs]; simp, rfl, ?_, by rw [e]; omega⟩
      show nx L k = _
      rw [hnx, e]; rfl
  · have hpv : pv L k = lst l := by rw [hs, pv_first (hs ▸ hnd) (List.mem_cons_self ..) rfl]
    by_cases hl : l = []
    · exact .inl ⟨by show pv L k = -1; rw [hpv, hl]; rfl, by show l.length = 0; rw [hl]; rfl⟩
    · have hpos : 0 < l.length := List.length_pos_iff.2 hl
      have e : natF L (l.length - 1) = lst l := by
        rw [← natF_last hl]
        unfold natF
        rw [hs, List.getD_eq_getElem?_getD, List.getD_eq_getElem?_getD, List.getElem?_append_left (by omega)]
      have hne : lst l ≠ -1 := fun e => hl (lst_none.1 e)
      exact .inr ⟨l.length - 1, by rw [hs]; simp; omega, by show l.length = l.length - 1 + 1; omega, by show pv L k = _; rw [hpv, e], by rw [e]; exact hne⟩
set_option maxHeartbeats 4000000 in
set_option maxRecDepth 100000 in
theorem rstep_any {K : Nat → Prop} {base : Nat} {W : World} {C g gv cg cv n m : Nat} {v : Nat → Int} {of : Nat → List Nat} (h : LrSt K base W C g gv cg cv n m v of) (x : Int) (back : Bool) :
    Calls Try.prog 50 #[.pointer (some ⟨C, 0, none⟩), .int .i64 x, .bool back] W (OkEq (stepW n m of x back) W) := by
  obtain ⟨c0, c1, c2⟩ := h.at_.cells
  have CD := find_at h x
  unfold stepW
  rcases find_is h x with ⟨ew, ef⟩ | ⟨ew, k, i, rfl, hkn, hw, hi, hs, ef⟩
  · rw [ew, if_neg (by decide)]
    rw [ef] at CD
    unfold TwoI at CD
    have CD := Lib.hid CD
    clear h ew ef
    go_enter Try.func50, Try.ntmps50
    go_wp2_with fail
    refine CD.out.mono ?_
    rintro e w1 ⟨rfl, rfl⟩
    go_wp2_with fail
    go_ret2
    exact ⟨rfl, rfl⟩
  · rw [ew, if_pos rfl, toNat_cast, hw, toNat_cast]
    rw [ef] at CD
    unfold TwoI at CD
    have hnd : (of i).Nodup := by obtain ⟨F, hr⟩ := h.rep; exact hr.nodup i hi
    have hpl := step_pl hnd hs back
    obtain ⟨u, u0, _, hu⟩ := h.at_.row hi
    obtain ⟨p, c, rfl, hx⟩ := hu.form
    have hl := h.len hi
    have hNl : (bef k (of i)).length < (of i).length := by
      have := congrArg List.length hs
      simp at this; omega
    generalize (bef k (of i)).length = M at CD hpl hNl
    have CD := Lib.hid CD
    have i0 : ¬ (i : Int) < 0 := by omega
    have i1 : (0 : Int) ≤ i := by omega
    have i2 : (i : Int) < m := by omega
    have w1 : IntKind.i64.wrap ((M : Int) + 1) = (M : Int) + 1 := IntWalk.i64_in _ (by omega)
    have w2 : IntKind.i64.wrap ((M : Int) + 1 - 2) = (M : Int) - 1 := by rw [IntWalk.i64_in _ (by omega)]; omega
    clear h ew ef hs hw hnd hu
    generalize of i = L at u0 hx hl hNl hpl ⊢
    generalize (if back = true then pv L k else nx L k) = y at hpl ⊢
    rcases hpl with ⟨rfl, he⟩ | ⟨N, hN, he, rfl, hne⟩
    · rw [show orNone 9 (-1) = TwoI 0 9 from rfl]
      clear hx
      cases back
      · have t1 : (L.length : Int) ≤ (M : Int) + 1 := by have : M + 1 = L.length := he; omega
        have t0 : ¬ (M : Int) + 1 < 0 := by omega
        clear he
        go_enter Try.func50, Try.ntmps50
        go_wp2_with fail
        refine CD.out.mono ?_
        rintro e w1 ⟨rfl, rfl⟩
        go_wp2_with fail
        go_ret2
        exact ⟨rfl, rfl⟩
      · have t1 : (M : Int) - 1 < 0 := by have : M = 0 := he; omega
        clear he
        go_enter Try.func50, Try.ntmps50
        go_wp2_with fail
        refine CD.out.mono ?_
        rintro e w1 ⟨rfl, rfl⟩
        go_wp2_with fail
        go_ret2
        exact ⟨rfl, rfl⟩
    · obtain ⟨q, rfl, y0⟩ := hx N hN
      rw [show orNone 9 (natF L N) = TwoI (natF L N) 0 from if_neg hne]
      generalize natF L N = y at y0 hne ⊢
      have n0 : (0 : Int) ≤ N := by omega
      have n1 : (N : Int) < L.length := by omega
      have n2 : ¬ (N : Int) < 0 := by omega
      have n3 : ¬ (L.length : Int) ≤ (N : Int) := by omega
      clear hx hne
      cases back
      · have e1 : (M : Int) + 1 = (N : Int) := by have : N = M + 1 := he; omega
        replace w1 := w1.trans e1
        clear he e1 w2
        go_enter Try.func50, Try.ntmps50
        go_wp2_with fail
        refine CD.out.mono ?_
        rintro e w1 ⟨rfl, rfl⟩
        go_wp2_with fail
        go_ret2
        exact ⟨rfl, rfl⟩
      · have e1 : (M : Int) - 1 = (N : Int) := by have : M = N + 1 := he; omega
        rw [e1] at w2
        clear he e1
        go_enter Try.func50, Try.ntmps50
        go_wp2_with fail
        refine CD.out.mono ?_
        rintro e w1 ⟨rfl, rfl⟩
        go_wp2_with fail
        go_ret2
        exact ⟨rfl, rfl⟩
end Go.Proofs.Ytnbniflljbbpbaa
