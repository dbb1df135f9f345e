/- links: Take of what Push or After has returned: plain mathematics; what the law LinksUndo carries on. -/
import Derived.Test.YtmelcohfjonjfaaLjMade
namespace Go.Proofs.Ytmelcohfjonjfaa
open Go.RowKit

theorem bef_mid {l r : List Nat} {k : Nat} (h : k ∉ l) : bef k (l ++ k :: r) = l ∧ beh k (l ++ k :: r) = r := by
  induction l with
  | nil => simp [bef, beh]
  | cons a l ih =>
    have ha : a ≠ k := fun e => h (e ▸ List.mem_cons_self ..)
    obtain ⟨i1, i2⟩ := ih (fun e => h (List.mem_cons_of_mem _ e))
    constructor
    · show (if a = k then [] else a :: bef k (l ++ k :: r)) = a :: l
      rw [if_neg ha, i1]
    · show (if a = k then l ++ k :: r else beh k (l ++ k :: r)) = r
      rw [if_neg ha, i2]
theorem whr_eq {m : Nat} {of : Nat → List Nat} {k i : Nat} (hi : i < m) (hk : k ∈ of i) (hu : ∀ j, j < m → k ∈ of j → j = i) : whr m of k = (i : Int) := by
  rcases whr_cases m of k with e | ⟨j, e⟩
  · exact absurd hk (whr_none e i hi)
  · obtain ⟨hj, hkj⟩ := whr_in e
    rw [e, hu j hj hkj]
theorem slotW_in {n m : Nat} {of : Nat → List Nat} {k i : Nat} (hk : k < n) (e : whr m of k = (i : Int)) : slotW n m of (k : Int) = 0 := by
  unfold slotW
  rw [toNat_cast, e, if_neg (by omega)]
/-- A slot put into a list, where it was in none. -/
structure Ins (n m : Nat) (of : Nat → List Nat) (s i : Nat) (l r : List Nat) : Prop where
  sn : s < n
  im : i < m
  hs : of i = l ++ r
  fr : ∀ j, j < m → s ∉ of j
theorem Ins.whr {n m : Nat} {of : Nat → List Nat} {s i : Nat} {l r : List Nat} (h : Ins n m of s i l r) : whr m (setOf of i (l ++ s :: r)) s = (i : Int) := by
  refine whr_eq h.im (by unfold setOf; rw [if_pos rfl]; simp) (fun j hj hm => ?_)
  unfold setOf at hm
  by_cases e : j = i
  · exact e
  · rw [if_neg e] at hm
    exact absurd hm (h.fr j hj)
theorem Ins.out {n m : Nat} {of : Nat → List Nat} {s i : Nat} {l r : List Nat} (h : Ins n m of s i l r) : s ∉ l ∧ s ∉ r := by
  have := h.fr i h.im
  rw [h.hs] at this
  exact ⟨fun e => this (List.mem_append_left _ e), fun e => this (List.mem_append_right _ e)⟩
theorem Ins.take {n m : Nat} {v : Nat → Int} {of : Nat → List Nat} {s i : Nat} {l r : List Nat} (h : Ins n m of s i l r) (z : Int) (hv : v s = 0) : takeX n m (updF v s z) (setOf of i (l ++ s :: r)) (s : Int) = ⟨.tuple #[.int .i64 z, .int .i64 0], v, of⟩ := by
  unfold takeX
  rw [slotW_in h.sn h.whr, if_pos rfl, toNat_cast, h.whr]
  simp only
  rw [toNat_cast]
  have e1 : setOf of i (l ++ s :: r) i = l ++ s :: r := by unfold setOf; rw [if_pos rfl]
  rw [e1, (bef_mid h.out.1).1, (bef_mid h.out.1).2, updF_same]
  have e2 : updF (updF v s z) s 0 = v := by
    funext j; unfold updF
    by_cases e : j = s
    · rw [if_pos e, e, hv]
    · rw [if_neg e, if_neg e]
  have e3 : setOf (setOf of i (l ++ s :: r)) i (l ++ r) = of := by
    funext j; unfold setOf
    by_cases e : j = i
    · rw [if_pos e, e, h.hs]
    · rw [if_neg e, if_neg e]
  rw [e2, e3]
  rfl
theorem fill_is {n m : Nat} {v : Nat → Int} {of : Nat → List Nat} {z : Int} {i : Nat} {l r : List Nat} (hi : i < m) (hs : of i = l ++ r) :
    (fillX n m v of z i l r = ⟨.tuple #[.int .i64 0, .int .i64 5], v, of⟩) ∨ ∃ s : Nat, Ins n m of s i l r ∧ fillX n m v of z i l r = ⟨.tuple #[.int .i64 (s : Int), .int .i64 0], updF v s z, setOf of i (l ++ s :: r)⟩ := by
  unfold fillX
  rcases freeS_cases n m of with e | ⟨k, e, hk, hf⟩
  · rw [e, if_pos rfl]; exact .inl rfl
  · rw [e, if_neg (ne_none k), toNat_cast]; exact .inr ⟨k, ⟨hk, hi, hs, hf⟩, rfl⟩
/-- What Push does: an error and nothing, or a slot is put in. -/
theorem push_is (n m : Nat) (v : Nat → Int) (of : Nat → List Nat) (l z : Int) (f : Bool) :
    (∃ e : Int, (e == 0) = false ∧ pushX n m v of l z f = ⟨.tuple #[.int .i64 0, .int .i64 e], v, of⟩) ∨ ∃ (s i : Nat) (a b : List Nat), Ins n m of s i a b ∧ pushX n m v of l z f = ⟨.tuple #[.int .i64 (s : Int), .int .i64 0], updF v s z, setOf of i (a ++ s :: b)⟩ := by
  unfold pushX
  rcases listE_cases m l with ⟨e, _⟩ | ⟨e, k, rfl, hk⟩
  · rw [e, if_neg (by decide)]; exact .inl ⟨7, rfl, rfl⟩
  · rw [e, if_pos rfl, toNat_cast]
    cases f
    · rcases fill_is (n := n) (v := v) (z := z) hk (l := of k) (r := []) (List.append_nil _).symm with h | ⟨s, h1, h2⟩
      · exact .inl ⟨5, rfl, h⟩
      · exact .inr ⟨s, k, of k, [], h1, h2⟩
    · rcases fill_is (n := n) (v := v) (z := z) hk (l := []) (r := of k) rfl with h | ⟨s, h1, h2⟩
      · exact .inl ⟨5, rfl, h⟩
      · exact .inr ⟨s, k, [], of k, h1, h2⟩
/-- What After does; then the slot put in is the next one. -/
theorem after_is {n m : Nat} {v : Nat → Int} {of : Nat → List Nat} (hnd : ∀ i, i < m → (of i).Nodup) (hdj : ∀ i j, i < m → j < m → i ≠ j → ∀ x ∈ of i, x ∉ of j) (x z : Int) :
    (∃ e : Int, (e == 0) = false ∧ afterX n m v of x z = ⟨.tuple #[.int .i64 0, .int .i64 e], v, of⟩) ∨ ∃ (s i : Nat) (a b : List Nat), Ins n m of s i a b ∧ afterX n m v of x z = ⟨.tuple #[.int .i64 (s : Int), .int .i64 0], updF v s z, setOf of i (a ++ s :: b)⟩ ∧
      stepW n m (setOf of i (a ++ s :: b)) x false = .tuple #[.int .i64 (s : Int), .int .i64 0] := by
  unfold afterX
  rcases slotW_cases n m of x with e | ⟨e, k, i, rfl, hk, ew, hi, hs⟩
  · rw [e, if_neg (by decide)]; exact .inl ⟨4, rfl, rfl⟩
  · rw [e, if_pos rfl, toNat_cast]
    simp only
    rw [ew, toNat_cast]
    rcases fill_is (n := n) (of := of) (v := v) (z := z) hi (l := bef k (of i) ++ [k]) (r := beh k (of i)) (by rw [List.append_assoc]; exact hs) with h | ⟨s, h1, h2⟩
    · exact .inl ⟨5, rfl, h⟩
    · refine .inr ⟨s, i, _, _, h1, h2, ?_⟩
      have hki : k ∈ of i := by rw [hs]; simp
      have hks : k ≠ s := fun e => h1.fr i hi (e ▸ hki)
      have hw : whr m (setOf of i (bef k (of i) ++ [k] ++ s :: beh k (of i))) k = (i : Int) := by
        refine whr_eq hi (by unfold setOf; rw [if_pos rfl]; simp) (fun j hj hm => ?_)
        unfold setOf at hm
        by_cases e : j = i
        · exact e
        · rw [if_neg e] at hm
          exact absurd hm (hdj i j hi hj (fun e2 => e e2.symm) k hki)
      unfold stepW
      rw [slotW_in hk hw, if_pos rfl, toNat_cast, hw, toNat_cast]
      have e1 : setOf of i (bef k (of i) ++ [k] ++ s :: beh k (of i)) i = bef k (of i) ++ k :: (s :: beh k (of i)) := by unfold setOf; rw [if_pos rfl]; simp
      show orNone 9 (nx _ k) = _
      rw [e1]
      have hno : k ∉ bef k (of i) := by
        have := hnd i hi
        rw [hs] at this
        exact fun hp => (List.nodup_append.1 this).2.2 k hp k (List.mem_cons_self ..) rfl
      have hn : ∀ (l r : List Nat), k ∉ l → nx (l ++ k :: r) k = hd r := by
        intro l r hl
        induction l with
        | nil => show (if k = k then _ else _) = _; rw [if_pos rfl]
        | cons c l ih =>
          show (if c = k then _ else nx (l ++ k :: r) k) = _
          rw [if_neg (fun e : c = k => hl (e ▸ List.mem_cons_self ..)), ih (fun e => hl (List.mem_cons_of_mem _ e))]
      rw [hn _ _ hno]
      show orNone 9 (s : Int) = _
      unfold orNone
      rw [if_neg (ne_none s)]; rfl
/-- The pool, and what was kept since w3. -/
structure UnSt (W1 w3 : World) (P : JP) (V : World) (v : Nat → Int) (of : Nat → List Nat) : Prop where
  pool : PoolS V P.B P.n P.m P.D v of
  old : Below W1.heap.size W1 V
  size : w3.heap.size ≤ V.heap.size
  keep : ∀ k, k < w3.heap.size → ¬ P.D.S k → V.heap[k]? = w3.heap[k]?
theorem JSt.un {W1 w3 : World} {P : JP} {v : Nat → Int} {of : Nat → List Nat} (h : JSt W1 P w3 v of) : UnSt W1 w3 P w3 v of := ⟨h.pool, h.old, Nat.le_refl _, fun _ _ _ => rfl⟩
theorem UnSt.step {W1 w3 : World} {P : JP} {V V' : World} {v v' : Nat → Int} {of of' : Nat → List Nat} (h : UnSt W1 w3 P V v of) (hlt : ∀ k, P.D.S k → W1.heap.size ≤ k) (hp : PoolS V' P.B P.n P.m P.D v' of') (hb : BelowS P.D.S V.heap.size V V') : UnSt W1 w3 P V' v' of' := by
  have hs := h.old.size
  have h2 := h.size
  exact ⟨hp, ⟨hb.os.trans h.old.os, hb.tape.trans h.old.tape, hb.output.trans h.old.output, Nat.le_trans hs hb.size, fun k hk => (hb.block k (by omega) (fun e => by have := hlt k e; omega)).trans (h.old.block k hk)⟩, Nat.le_trans h2 hb.size, fun k hk hn => (hb.block k (by omega) hn).trans (h.keep k hk hn)⟩
theorem UnSt.below {W1 w3 : World} {P : JP} {V V' : World} {v : Nat → Int} {of : Nat → List Nat} (h : UnSt W1 w3 P V v of) (hb : Below V.heap.size V V') : UnSt W1 w3 P V' v of := by
  have h2 := h.size
  exact ⟨h.pool.below hb, h.old.trans (hb.mono h.old.size), Nat.le_trans h2 hb.size, fun k hk hn => (hb.block k (by omega)).trans (h.keep k hk hn)⟩
theorem UnSt.rows {W1 w3 : World} {P : JP} {V : World} {v : Nat → Int} {of : Nat → List Nat} (h : UnSt W1 w3 P V v of) {n m : Nat} {D : LkB} {x : Nat → Int} {F : LkF} (hr : RowsAt w3 n m D x F) (hf : ∀ k, D.S k → ¬ P.D.S k) : RowsAt V n m D x F :=
  ⟨hr.rv.block (h.keep _ hr.rv.lt (hf _ (.inl rfl))), hr.rl.block (h.keep _ hr.rl.lt (hf _ (.inr (.inl rfl)))), hr.rn.block (h.keep _ hr.rn.lt (hf _ (.inr (.inr (.inl rfl))))), hr.rp.block (h.keep _ hr.rp.lt (hf _ (.inr (.inr (.inr (.inl rfl)))))), hr.rf.block (h.keep _ hr.rf.lt (hf _ (.inr (.inr (.inr (.inr (.inl rfl))))))), hr.ra.block (h.keep _ hr.ra.lt (hf _ (.inr (.inr (.inr (.inr (.inr rfl)))))))⟩
end Go.Proofs.Ytmelcohfjonjfaa
