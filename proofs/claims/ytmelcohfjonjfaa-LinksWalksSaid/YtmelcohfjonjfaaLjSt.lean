/- links: a free slot's value is zero: kept by every call. links: a pool and the reference's lists, side by side. -/
import Derived.Test.YtmelcohfjonjfaaLrNew
namespace Go.Proofs.Ytmelcohfjonjfaa

def FZ (n m : Nat) (v : Nat → Int) (of : Nat → List Nat) : Prop := ∀ s, s < n → (∀ i, i < m → s ∉ of i) → v s = 0
theorem fill_fz {n m : Nat} {v : Nat → Int} {of : Nat → List Nat} (h : FZ n m v of) {i : Nat} (hi : i < m) {l r : List Nat} (hs : of i = l ++ r) (z : Int) : FZ n m (fillX n m v of z i l r).v (fillX n m v of z i l r).of := by
  unfold fillX
  rcases freeS_cases n m of with e | ⟨k, e, hk, hf⟩
  · rw [e, if_pos rfl]; exact h
  · rw [e, if_neg (ne_none k), toNat_cast]
    intro s hsn hfr
    have hfr : ∀ j, j < m → s ∉ setOf of i (l ++ k :: r) j := hfr
    have hne : s ≠ k := fun e2 => hfr i hi (by unfold setOf; rw [if_pos rfl, e2]; simp)
    show updF v k z s = 0
    rw [updF_other hne]
    refine h s hsn (fun j hj hm => hfr j hj ?_)
    unfold setOf
    by_cases ej : j = i
    · rw [if_pos ej]
      rw [ej, hs] at hm
      rcases List.mem_append.1 hm with h1 | h1
      · exact List.mem_append_left _ h1
      · exact List.mem_append_right _ (List.mem_cons_of_mem _ h1)
    · rw [if_neg ej]; exact hm
theorem push_fz {n m : Nat} {v : Nat → Int} {of : Nat → List Nat} (h : FZ n m v of) (l z : Int) (f : Bool) : FZ n m (pushX n m v of l z f).v (pushX n m v of l z f).of := by
  unfold pushX
  rcases listE_cases m l with ⟨e, _⟩ | ⟨e, k, rfl, hk⟩
  · rw [e, if_neg (by decide)]; exact h
  · rw [e, if_pos rfl, toNat_cast]
    cases f
    · exact fill_fz h hk (List.append_nil _).symm z
    · exact fill_fz h hk (l := []) rfl z
theorem after_fz {n m : Nat} {v : Nat → Int} {of : Nat → List Nat} (h : FZ n m v of) (x z : Int) : FZ n m (afterX n m v of x z).v (afterX n m v of x z).of := by
  unfold afterX
  rcases slotW_cases n m of x with e | ⟨e, k, i, rfl, hk, ew, hi, hs⟩
  · rw [e, if_neg (by decide)]; exact h
  · rw [e, if_pos rfl, toNat_cast]
    simp only
    rw [ew, toNat_cast]
    exact fill_fz h hi (l := bef k (of i) ++ [k]) (r := beh k (of i)) (by rw [List.append_assoc]; exact hs) z
theorem cut_mem {of : Nat → List Nat} {i k s j : Nat} {l r : List Nat} (hs : of i = l ++ k :: r) (hne : s ≠ k) : s ∈ of j ↔ s ∈ setOf of i (l ++ r) j := by
  unfold setOf
  by_cases ej : j = i
  · rw [if_pos ej, ej, hs]
    simp [hne]
  · rw [if_neg ej]
theorem take_fz {n m : Nat} {v : Nat → Int} {of : Nat → List Nat} (h : FZ n m v of) (x : Int) : FZ n m (takeX n m v of x).v (takeX n m v of x).of := by
  unfold takeX
  rcases slotW_cases n m of x with e | ⟨e, k, i, rfl, hk, ew, hi, hs⟩
  · rw [e, if_neg (by decide)]; exact h
  · rw [e, if_pos rfl, toNat_cast]
    simp only
    rw [ew, toNat_cast]
    intro s hsn hfr
    by_cases hne : s = k
    · subst hne; exact updF_same _ _ _
    · rw [updF_other hne]
      exact h s hsn (fun j hj hm => hfr j hj ((cut_mem hs hne).1 hm))
theorem move_fz {n m : Nat} {v : Nat → Int} {of : Nat → List Nat} (h : FZ n m v of) (x l : Int) (f : Bool) : FZ n m (moveX n m v of x l f).v (moveX n m v of x l f).of := by
  unfold moveX
  rcases slotW_cases n m of x with e | ⟨e, k, i, rfl, hk, ew, hi, hs⟩
  · rw [e, if_neg (by decide)]; exact h
  · rw [e, if_pos rfl, toNat_cast]
    simp only
    rw [ew, toNat_cast]
    rcases listE_cases m l with ⟨e, _⟩ | ⟨e, t, rfl, ht⟩
    · rw [e, if_neg (by decide)]; exact h
    · rw [e, if_pos rfl, toNat_cast]
      intro s hsn hfr
      have hfr : ∀ j, j < m → s ∉ movedOf (setOf of i (bef k (of i) ++ beh k (of i))) k t f j := hfr
      have hne : s ≠ k := fun e2 => hfr t ht (by unfold movedOf; show s ∈ setOf _ t _ t; unfold setOf; rw [if_pos rfl, e2]; cases f <;> simp)
      refine h s hsn (fun j hj hm => hfr j hj ?_)
      have hm2 := (cut_mem hs hne).1 hm
      unfold movedOf
      generalize setOf of i (bef k (of i) ++ beh k (of i)) = of2 at hm2
      unfold setOf
      by_cases ej : j = t
      · rw [if_pos ej]; subst ej; cases f <;> simp [hm2]
      · rw [if_neg ej]; exact hm2
theorem put_fz {n m : Nat} {v : Nat → Int} {of : Nat → List Nat} (h : FZ n m v of) (x z : Int) : FZ n m (putX n m v of x z).v (putX n m v of x z).of := by
  unfold putX
  rcases slotW_cases n m of x with e | ⟨e, k, i, rfl, hk, ew, hi, hs⟩
  · rw [e, if_neg (by decide)]; exact h
  · rw [e, if_pos rfl, toNat_cast]
    intro s hsn hfr
    have hfr : ∀ j, j < m → s ∉ of j := hfr
    have hne : s ≠ k := fun e2 => hfr i hi (by rw [hs, e2]; simp)
    show updF v k z s = 0
    rw [updF_other hne]
    exact h s hsn hfr
end Go.Proofs.Ytmelcohfjonjfaa
namespace Go.Proofs.Ytmelcohfjonjfaa
open Go.RowKit

/-- Where a pool and the reference's lists lie. -/
structure JP where
  B : Nat
  n : Nat
  m : Nat
  D : LkB
  C : Nat
  g : Nat
  gv : Nat
  cg : Nat
  cv : Nat
  base : Nat
def JP.K (P : JP) (q : Nat) : Prop := q ≠ P.C ∧ q ≠ P.g ∧ q ≠ P.gv ∧ ¬ P.D.S q
def JP.T (P : JP) (q : Nat) : Prop := P.D.S q ∨ LsS P.g P.gv q
/-- Both hold the same values and lists; all of it is memory that is newer than W0's. -/
structure JSt (W0 : World) (P : JP) (W : World) (v : Nat → Int) (of : Nat → List Nat) : Prop where
  pool : PoolS W P.B P.n P.m P.D v of
  ls : LsAt P.K W P.C P.g P.gv P.cg P.cv P.n P.m v of
  ap : P.B ≠ P.g ∧ P.B ≠ P.gv ∧ ¬ P.D.S P.g ∧ ¬ P.D.S P.gv ∧ ¬ P.D.S P.C
  lt : ∀ q, q = P.B ∨ P.D.S q ∨ q = P.C ∨ q = P.g ∨ q = P.gv → W0.heap.size ≤ q ∧ q < P.base
  bs : P.base ≤ W.heap.size
  old : Below W0.heap.size W0 W
  fz : FZ P.n P.m v of
theorem LsAt.keep {K : Nat → Prop} {W W' : World} {C g gv cg cv n m : Nat} {v : Nat → Int} {of : Nat → List Nat} (h : LsAt K W C g gv cg cv n m v of) (hs : W.heap.size ≤ W'.heap.size) (hc : W'.heap[C]? = W.heap[C]?) (hg : W'.heap[g]? = W.heap[g]?) (hv : W'.heap[gv]? = W.heap[gv]?)
    (hK : ∀ q, K q → q < W.heap.size → W'.heap[q]? = W.heap[q]?) : LsAt K W' C g gv cg cv n m v of := by
  obtain ⟨cur, r1, r2, r3⟩ := h.rows
  refine ⟨hc.trans h.box, ⟨cur, hg.trans r1, r2, fun j hj => ?_⟩, h.vals.block hv, h.ne⟩
  obtain ⟨u, hu, hx⟩ := r3 j hj
  exact ⟨u, hu, hx.keep hs hK⟩
theorem JSt.kok {W0 : World} {P : JP} {W : World} {v : Nat → Int} {of : Nat → List Nat} (h : JSt W0 P W v of) : KOk P.K P.base P.C P.g P.gv := by
  have hC := (h.lt P.C (.inr (.inr (.inl rfl)))).2
  have hg := (h.lt P.g (.inr (.inr (.inr (.inl rfl))))).2
  have hv := (h.lt P.gv (.inr (.inr (.inr (.inr rfl))))).2
  exact ⟨fun q hq => ⟨by omega, by omega, by omega, fun hs => by have := (h.lt q (.inr (.inl hs))).2; omega⟩, fun k => k.2.1 rfl, fun k => k.2.2.1 rfl, fun k => k.1 rfl, hC, hg, hv⟩
theorem JSt.lr {W0 : World} {P : JP} {W : World} {v : Nat → Int} {of : Nat → List Nat} (h : JSt W0 P W v of) : LrSt P.K P.base W P.C P.g P.gv P.cg P.cv P.n P.m v of := by
  obtain ⟨F, p, r⟩ := h.pool
  exact ⟨h.ls, h.kok, h.bs, p.nn, p.mm, ⟨F, r⟩⟩
theorem JSt.below {W0 : World} {P : JP} {W W' : World} {v : Nat → Int} {of : Nat → List Nat} (h : JSt W0 P W v of) (hb : Below W.heap.size W W') : JSt W0 P W' v of := by
  have hk := h.kok.lt
  have hbs := h.bs
  have hs := h.old.size
  exact ⟨h.pool.below hb, h.ls.keep hb.size (hb.block _ (by omega)) (hb.block _ (by omega)) (hb.block _ (by omega)) (fun q _ hq => hb.block q hq), h.ap, h.lt, Nat.le_trans hbs hb.size, h.old.trans (hb.mono hs), h.fz⟩
/-- What is below W0 is not written. -/
theorem JSt.oldS {W0 : World} {P : JP} {W W' : World} {v : Nat → Int} {of : Nat → List Nat} (h : JSt W0 P W v of) (hb : BelowS P.T W.heap.size W W') : Below W0.heap.size W0 W' := by
  have hs := h.old.size
  refine ⟨hb.os.trans h.old.os, hb.tape.trans h.old.tape, hb.output.trans h.old.output, Nat.le_trans hs hb.size, fun q hq => (hb.block q (by omega) ?_).trans (h.old.block q hq)⟩
  rintro (e | e | e)
  · have := (h.lt q (.inr (.inl e))).1; omega
  · have := (h.lt q (.inr (.inr (.inr (.inl e))))).1; omega
  · have := (h.lt q (.inr (.inr (.inr (.inr e))))).1; omega
theorem belowT1 {P : JP} {W W' : World} (hb : BelowS P.D.S W.heap.size W W') : BelowS P.T W.heap.size W W' := ⟨hb.os, hb.tape, hb.output, hb.size, fun k hk hn => hb.block k hk (fun e => hn (.inl e))⟩
theorem belowT2 {P : JP} {D : Nat} {W W' : World} (hb : BelowS (LsS P.g P.gv) D W W') : BelowS P.T D W W' := ⟨hb.os, hb.tape, hb.output, hb.size, fun k hk hn => hb.block k hk (fun e => hn (.inr e))⟩
/-- Behind a call of the pool, the reference's lists are as they were. -/
theorem JSt.mid {W0 : World} {P : JP} {W W' : World} {v : Nat → Int} {of : Nat → List Nat} (h : JSt W0 P W v of) (hb : BelowS P.D.S W.heap.size W W') : LrSt P.K P.base W' P.C P.g P.gv P.cg P.cv P.n P.m v of := by
  have hk := h.kok.lt
  have hbs := h.bs
  obtain ⟨F, p, r⟩ := h.pool
  exact ⟨h.ls.keep hb.size (hb.block _ (by omega) h.ap.2.2.2.2) (hb.block _ (by omega) h.ap.2.2.1) (hb.block _ (by omega) h.ap.2.2.2.1) (fun q hq hlt => hb.block q hlt hq.2.2.2), h.kok, Nat.le_trans hbs hb.size, p.nn, p.mm, ⟨F, r⟩⟩
/-- Behind both calls. -/
theorem JSt.both {W0 : World} {P : JP} {W W1 W2 : World} {v v' : Nat → Int} {of of' : Nat → List Nat} (h : JSt W0 P W v of) (hp : PoolS W1 P.B P.n P.m P.D v' of') (hb : BelowS P.D.S W.heap.size W W1) (hl : LsAt P.K W2 P.C P.g P.gv P.cg P.cv P.n P.m v' of') (hb2 : BelowS (LsS P.g P.gv) W1.heap.size W1 W2) (hz : FZ P.n P.m v' of') : JSt W0 P W2 v' of' := by
  obtain ⟨F, p, r⟩ := hp
  have hs1 := hb.size
  have hs2 := hb2.size
  refine ⟨⟨F, p.block (fun k hk => hb2.block k (p.lt k hk) ?_), r⟩, hl, h.ap, h.lt, by have := h.bs; omega, h.oldS ((belowT1 hb).trans ((belowT2 hb2).less hs1)), hz⟩
  rintro (e | e)
  · rcases hk with rfl | hk
    · exact h.ap.1 e
    · exact h.ap.2.2.1 (e ▸ hk)
  · rcases hk with rfl | hk
    · exact h.ap.2.1 e
    · exact h.ap.2.2.2.1 (e ▸ hk)
/-- A block that is new is not written. -/
theorem JSt.far {W0 : World} {P : JP} {W : World} {v : Nat → Int} {of : Nat → List Nat} (h : JSt W0 P W v of) {q : Nat} (hq : P.base ≤ q) : ¬ P.D.S q ∧ ¬ LsS P.g P.gv q := by
  have hk := h.kok.lt
  refine ⟨fun e => by have := (h.lt q (.inr (.inl e))).2; omega, ?_⟩
  rintro (e | e) <;> omega
def callV (w a b c : Int) (f : Bool) : Value := .agg #[.int .u8 w, .int .i64 a, .int .i64 b, .int .i64 c, .bool f]
def DoPost (W0 : World) (P : JP) (W : World) (e : Ending) (W' : World) : Prop := e = .returned (.bool true) ∧ (∃ v of, JSt W0 P W' v of) ∧ BelowS P.T W.heap.size W W'
end Go.Proofs.Ytmelcohfjonjfaa
