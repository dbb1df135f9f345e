/- links: going through a list, each slot of which is taken out, or moved, when it has been yielded: plain mathematics. -/
import Derived.Test.YtmelcohfjonjfaaLjUnMath
namespace Go.Proofs.Ytmelcohfjonjfaa

theorem Rep.whr {n m : Nat} {of : Nat → List Nat} {F : LkF} (h : Rep n m of F) {l x : Nat} (hl : l < m) (hx : x ∈ of l) : Go.Proofs.Ytmelcohfjonjfaa.whr m of x = (l : Int) := by
  rw [← rep_list h (h.lt l hl x hx), (h.used l hl x hx).1]
theorem ord_mid {of : Nat → List Nat} {l : Nat} {back : Bool} {A rest : List Nat} {x : Nat} (h : ordL of l back = A ++ x :: rest) :
    of l = if back then rest.reverse ++ x :: A.reverse else A ++ x :: rest := by
  unfold ordL at h
  cases back
  · exact h
  · have := congrArg List.reverse h
    rw [if_pos rfl, List.reverse_reverse] at this
    rw [this]; simp
theorem ord_set {of : Nat → List Nat} {l : Nat} {L : List Nat} (back : Bool) : ordL (setOf of l L) l back = if back then L.reverse else L := by
  unfold ordL setOf
  rw [if_pos rfl]
theorem ord_other {of : Nat → List Nat} {l i : Nat} {L : List Nat} (back : Bool) (h : l ≠ i) : ordL (setOf of i L) l back = ordL of l back := by
  unfold ordL setOf
  rw [if_neg h]
/-- The list without the slot. -/
def outL (A rest : List Nat) (back : Bool) : List Nat := if back then rest.reverse ++ A.reverse else A ++ rest
theorem ord_out {n m : Nat} {of : Nat → List Nat} {F : LkF} (hr : Rep n m of F) {l : Nat} (hl : l < m) {back : Bool} {A rest : List Nat} {x : Nat} (h : ordL of l back = A ++ x :: rest) :
    whr m of x = (l : Int) ∧ x < n ∧ bef x (of l) ++ beh x (of l) = outL A rest back ∧ x ∉ A ∧ x ∉ rest := by
  have e := ord_mid h
  have hx : x ∈ of l := by rw [e]; cases back <;> simp
  have hnd := hr.nodup l hl
  have hout : x ∉ A ∧ x ∉ rest := by
    rw [e] at hnd
    cases back
    · have := (nodup_del hnd).2
      exact ⟨fun h => this (by simp [h]), fun h => this (by simp [h])⟩
    · have := (nodup_del hnd).2
      exact ⟨fun h => this (by simp [h]), fun h => this (by simp [h])⟩
  refine ⟨hr.whr hl hx, hr.lt l hl x hx, ?_, hout.1, hout.2⟩
  rw [e]
  unfold outL
  cases back
  · have := bef_mid (l := A) (r := rest) hout.1
    show bef x (A ++ x :: rest) ++ beh x (A ++ x :: rest) = A ++ rest
    rw [this.1, this.2]
  · have := bef_mid (l := rest.reverse) (r := A.reverse) (k := x) (by simpa using hout.2)
    show bef x (rest.reverse ++ x :: A.reverse) ++ beh x (rest.reverse ++ x :: A.reverse) = rest.reverse ++ A.reverse
    rw [this.1, this.2]
theorem ord_outL (of : Nat → List Nat) (l : Nat) (A rest : List Nat) (back : Bool) : ordL (setOf of l (outL A rest back)) l back = A ++ rest := by
  rw [ord_set]
  unfold outL
  cases back <;> simp
theorem tail_get {n m : Nat} {v : Nat → Int} {of : Nat → List Nat} {F : LkF} (hr : Rep n m of F) {l : Nat} (hl : l < m) {back : Bool} {A rest : List Nat} {x : Nat} (h : ordL of l back = A ++ x :: rest) : getW n m v of (x : Int) = TwoI (v x) 0 := by
  obtain ⟨h1, h2, _⟩ := ord_out hr hl h
  unfold getW
  rw [slotW_in h2 h1, if_pos rfl, toNat_cast]
theorem tail_take {n m : Nat} {v : Nat → Int} {of : Nat → List Nat} {F : LkF} (hr : Rep n m of F) {l : Nat} (hl : l < m) {back : Bool} {A rest : List Nat} {x : Nat} (h : ordL of l back = A ++ x :: rest) :
    ∃ of', takeX n m v of (x : Int) = ⟨TwoI (v x) 0, updF v x 0, of'⟩ ∧ ordL of' l back = A ++ rest := by
  obtain ⟨h1, h2, h3, _⟩ := ord_out hr hl h
  refine ⟨setOf of l (outL A rest back), ?_, ord_outL _ _ _ _ _⟩
  unfold takeX
  rw [slotW_in h2 h1, if_pos rfl, toNat_cast, h1]
  simp only
  rw [toNat_cast, h3]
theorem tail_move {n m : Nat} {v : Nat → Int} {of : Nat → List Nat} {F : LkF} (hr : Rep n m of F) {l to : Nat} (hl : l < m) (hto : to < m) {back : Bool} {A rest : List Nat} {x : Nat} (h : ordL of l back = A ++ x :: rest) :
    ∃ of' A', moveX n m v of (x : Int) (to : Int) (!back) = ⟨.int .i64 0, v, of'⟩ ∧ ordL of' l back = A' ++ rest := by
  obtain ⟨h1, h2, h3, _⟩ := ord_out hr hl h
  have e : moveX n m v of (x : Int) (to : Int) (!back) = ⟨.int .i64 0, v, movedOf (setOf of l (outL A rest back)) x to (!back)⟩ := by
    unfold moveX
    rw [slotW_in h2 h1, if_pos rfl, toNat_cast, h1]
    have : listE m (to : Int) = 0 := by
      rcases listE_cases m (to : Int) with ⟨e, h⟩ | ⟨e, _⟩
      · exfalso; omega
      · exact e
    rw [if_pos this]
    simp only
    rw [toNat_cast, toNat_cast, h3]
  refine ⟨_, if to = l then x :: A else A, e, ?_⟩
  unfold movedOf
  by_cases ht : to = l
  · subst ht
    rw [if_pos rfl, ord_set]
    unfold outL
    cases back <;> simp [setOf]
  · rw [if_neg ht, ord_other _ (fun e => ht e.symm), ord_outL]
end Go.Proofs.Ytmelcohfjonjfaa
