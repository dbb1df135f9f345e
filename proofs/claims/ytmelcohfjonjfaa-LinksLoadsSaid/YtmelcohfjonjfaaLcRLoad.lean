/- links: the reference's Load. -/
import Derived.Test.YtmelcohfjonjfaaLcRCheck
import Derived.Test.YtmelcohfjonjfaaLsSave
namespace Go.Proofs.Ytmelcohfjonjfaa
open Go.RowKit

def famL (u : Nat → Value) (of : Nat → List Nat) (m : Nat) : Nat → Option (Value × List Value) := fun j => if j < m then some (u j, natC (of j)) else none
theorem famL_some {u : Nat → Value} {of : Nat → List Nat} {m j : Nat} (h : j < m) : famL u of m j = some (u j, natC (of j)) := if_pos h
/-- The reference's lists while they are built: rows g, gv, the lists' own rows from base on. -/
structure RLS (W4 : World) (C g gv base n m cg cv : Nat) (w : World) (u : Nat → Value) (vv : Nat → Int) (of : Nat → List Nat) : Prop where
  box : w.heap[C]? = some (.cells #[.int .i64 (n : Int), .slice (some ⟨g, 0, none⟩) m cg, .slice (some ⟨gv, 0, none⟩) n cv] 31 (0, 0))
  row : ∃ cur, w.heap[g]? = some (.cells cur 29 (0, 0)) ∧ m ≤ cur.size ∧ ∀ j, j < m → cur[j]? = some (u j)
  vals : RowF w gv n vv
  fam : Fam w base (famL u of m)
  bel : BelowS (fun k => k = g ∨ k = gv) base W4 w
  bs : base ≤ w.heap.size
  ne : C ≠ g ∧ C ≠ gv ∧ g ≠ gv ∧ C < base ∧ g < base ∧ gv < base
theorem RLS.cell {W4 : World} {C g gv base n m cg cv : Nat} {w : World} {u : Nat → Value} {vv : Nat → Int} {of : Nat → List Nat} (h : RLS W4 C g gv base n m cg cv w u vv of) {j : Nat} (hj : j < m) : w.cell? ⟨g, j, none⟩ = some (u j) ∧ w.frozen? ⟨g, j, none⟩ = false := by
  obtain ⟨cur, r1, r2, r3⟩ := h.row
  exact ⟨row_cell r1 (r3 j hj), row_free r1⟩
theorem RLS.val {W4 : World} {C g gv base n m cg cv : Nat} {w : World} {u : Nat → Value} {vv : Nat → Int} {of : Nat → List Nat} (h : RLS W4 C g gv base n m cg cv w u vv of) {x : Nat} (hx : x < n) (z : Int) :
    RLS W4 C g gv base n m cg cv (w.setCell ⟨gv, x, none⟩ (.int .i64 z)) u (updF vv x z) of := by
  obtain ⟨n1, n2, n3, n4, n5, n6⟩ := h.ne
  obtain ⟨cur, r1, r2, r3⟩ := h.row
  exact ⟨(Below.heap_setCell _ _ _ _ (by simpa using n2)).trans h.box, ⟨cur, (Below.heap_setCell _ _ _ _ (by simpa using n3)).trans r1, r2, r3⟩, h.vals.set hx z, h.fam.cell n6 x _, h.bel.cell (S := fun k => k = g ∨ k = gv) (.inr rfl) _ _, by simpa [World.setCell] using h.bs, h.ne⟩
theorem RLS.drew {W4 : World} {C g gv base n m cg cv : Nat} {w : World} {u : Nat → Value} {vv : Nat → Int} {of : Nat → List Nat} (h : RLS W4 C g gv base n m cg cv w u vv of) : RLS W4 C g gv base n m cg cv w.drew u vv of :=
  ⟨h.box, h.row, h.vals.block rfl, h.fam.drew, h.bel.trans (BelowS.of ((Below.refl _ w).drew)), h.bs, h.ne⟩
theorem RLS.app {W4 : World} {C g gv base n m cg cv : Nat} {wx w4 : World} {u : Nat → Value} {vv : Nat → Int} {of : Nat → List Nat} (h : RLS W4 C g gv base n m cg cv wx u vv of) {k x : Nat} (hk : k < m) {o : Obj} {v4 : Value} {ys : List Value}
    (hown : w4.ownsRow base 3 1 v4 ys.length ys) (hys : ys = natC (of k ++ [x])) (hg : (wx.alloc o).drew.grownBy w4 (u k).ownBlock) (hq : v4.ownBlock = (u k).ownBlock ∨ v4.ownBlock = some (wx.alloc o).drew.heap.size) :
    RLS W4 C g gv base n m cg cv (w4.setCell ⟨g, k, none⟩ v4) (updV u k v4) vv (setOf of k (of k ++ [x])) := by
  obtain ⟨n1, n2, n3, n4, n5, n6⟩ := h.ne
  have h0 := h.fam.own k _ _ (famL_some hk)
  have hb1 : Below base wx w4 := (((Below.refl base wx).alloc h.bs o).drew).grown hg (by show base ≤ (wx.alloc o).heap.size; rw [size1]; have := h.bs; omega) (fun q e => (h0.lt q e).1)
  obtain ⟨cur, r1, r2, r3⟩ := h.row
  have r1' := (hb1.block g n5).trans r1
  refine ⟨(Below.heap_setCell _ _ _ _ (by simpa using n1)).trans ((hb1.block C n4).trans h.box), ⟨_, heap_set (i := k) v4 r1', by simpa using r2, fun j hj => ?_⟩, (h.vals.block (hb1.block gv n6)).other (fun e => n3 e.symm) _ _, ?_, (h.bel.trans (BelowS.of hb1)).cell (S := fun k => k = g ∨ k = gv) (.inl rfl) _ _, by have := hb1.size; have := h.bs; simp only [World.setCell, Array.size_modify]; omega, h.ne⟩
  · rw [Array.getElem?_setIfInBounds]
    by_cases e : k = j
    · subst e; rw [if_pos rfl, if_pos (by omega), updV_same]
    · rw [if_neg e, updV_ne (fun e2 => e e2.symm)]; exact r3 j hj
  · have hf : Fam w4 base (updV (famL u of m) k (some (v4, ys))) := ((h.fam.more o).drew).app (famL_some hk) hown hg hq
    refine (hf.sub fun i r hr => ?_).cell n5 k v4
    unfold famL at hr
    by_cases e : i = k
    · subst e
      rw [updV_same, ← hr, if_pos hk, updV_same, hys]
      unfold setOf
      rw [if_pos rfl]
    · rw [updV_ne e]
      rw [updV_ne e] at hr
      unfold setOf at hr
      rw [if_neg e] at hr
      exact hr
/-- Values of the slots that were met. -/
def valK (F : LkF) (v : Nat → Int) (k : Nat) (pre : List Nat) : Nat → Int := fun j => if (0 ≤ F.list j ∧ F.list j < (k : Int)) ∨ j ∈ pre then v j else 0
def ofK (of : Nat → List Nat) (k : Nat) (pre : List Nat) : Nat → List Nat := fun j => if j < k then of j else if j = k then pre else []
theorem RowF.congr {W : World} {g n : Nat} {f f' : Nat → Int} (h : RowF W g n f) (e : ∀ j, j < n → f j = f' j) : RowF W g n f' := by
  obtain ⟨cur, h1, h2, h3⟩ := h
  exact ⟨cur, h1, h2, fun j hj => by rw [← e j hj]; exact h3 j hj⟩
theorem RLS.congr {W4 : World} {C g gv base n m cg cv : Nat} {w : World} {u : Nat → Value} {vv vv' : Nat → Int} {of of' : Nat → List Nat} (h : RLS W4 C g gv base n m cg cv w u vv of) (hv : ∀ j, j < n → vv j = vv' j) (ho : ∀ j, j < m → of j = of' j) : RLS W4 C g gv base n m cg cv w u vv' of' := by
  refine ⟨h.box, h.row, h.vals.congr hv, h.fam.sub fun i r hr => ?_, h.bel, h.bs, h.ne⟩
  unfold famL at hr ⊢
  by_cases e : i < m
  · rw [if_pos e] at hr ⊢; rw [ho i e]; exact hr
  · rw [if_neg e] at hr; cases hr
theorem ofK_step (of : Nat → List Nat) (k : Nat) (pre : List Nat) (x : Nat) : setOf (ofK of k pre) k (ofK of k pre k ++ [x]) = ofK of k (pre ++ [x]) := by
  funext j
  unfold setOf ofK
  by_cases e : j = k
  · subst e; simp
  · rw [if_neg e]; by_cases e2 : j < k
    · rw [if_pos e2, if_pos e2]
    · rw [if_neg e2, if_neg e2, if_neg e, if_neg e]
theorem ofK_next (of : Nat → List Nat) (k j : Nat) : ofK of k (of k) j = ofK of (k + 1) [] j := by
  unfold ofK
  by_cases e : j < k
  · rw [if_pos e, if_pos (by omega)]
  · rw [if_neg e]
    by_cases e2 : j = k
    · subst e2; rw [if_pos rfl, if_pos (by omega)]
    · rw [if_neg e2, if_neg (by omega)]; simp
theorem valK_step (F : LkF) (v : Nat → Int) (k : Nat) (pre : List Nat) (x : Nat) : updF (valK F v k pre) x (v x) = valK F v k (pre ++ [x]) := by
  funext j
  unfold updF valK
  by_cases e : j = x
  · subst e; rw [if_pos rfl, if_pos (.inr (by simp))]
  · rw [if_neg e]
    by_cases h : (0 ≤ F.list j ∧ F.list j < (k : Int)) ∨ j ∈ pre
    · rw [if_pos h, if_pos (by rcases h with h | h; exact .inl h; exact .inr (by simp [h]))]
    · rw [if_neg h, if_neg (fun h2 => h (by rcases h2 with h2 | h2; exact .inl h2; exact .inr (by simpa [e] using h2)))]
theorem valK_next {n m : Nat} {of : Nat → List Nat} {F : LkF} (hr : Rep n m of F) (v : Nat → Int) {k : Nat} (hk : k < m) {j : Nat} (hj : j < n) : valK F v k (of k) j = valK F v (k + 1) [] j := by
  unfold valK
  have : j ∈ of k ↔ F.list j = (k : Int) := by
    constructor
    · intro h; exact (hr.used k hk j h).1
    · intro h
      by_cases e : ∃ i, i < m ∧ j ∈ of i
      · obtain ⟨i, hi, hm⟩ := e
        have := (hr.used i hi j hm).1
        obtain rfl : i = k := by omega
        exact hm
      · have := (hr.free j hj (fun i hi hm => e ⟨i, hi, hm⟩)).1
        omega
  by_cases h : (0 ≤ F.list j ∧ F.list j < (k : Int)) ∨ j ∈ of k
  · rw [if_pos h, if_pos]
    left
    rcases h with h | h
    · omega
    · have := this.1 h; omega
  · rw [if_neg h, if_neg]
    rintro (h2 | h2)
    · by_cases e : F.list j = (k : Int)
      · exact h (.inr (this.2 e))
      · exact h (.inl (by omega))
    · cases h2
theorem valK_all {n m : Nat} {of : Nat → List Nat} {F : LkF} (hr : Rep n m of F) (v : Nat → Int) {j : Nat} (hj : j < n) : valK F v m [] j = freeV v F n j := by
  unfold valK freeV
  rcases hr.slots j hj with e | e
  · rw [if_neg (by simp; omega), if_pos ⟨hj, e.1⟩]
  · rw [if_pos (.inl e.1), if_neg (by omega)]
def RLoadPost (s : SP) (v : Nat → Int) (F : LkF) (W : World) (e : Ending) (W' : World) : Prop :=
  (∃ a b : Int, a ≠ 0 ∧ WrongIs s.fits s.kl s.kf F a b ∧ e = .returned (.tuple #[.agg #[.int .i64 0, .slice none 0 0, .slice none 0 0], .int .i64 6]) ∧ Below W.heap.size W W') ∨
  (WrongIs s.fits s.kl s.kf F 0 0 ∧ ∃ (g gv cg cv : Nat) (of : Nat → List Nat) (vv : Nat → Int), e = .returned (.tuple #[.agg #[.int .i64 (s.kl : Int), .slice (some ⟨g, 0, none⟩) s.kf cg, .slice (some ⟨gv, 0, none⟩) s.kl cv], .int .i64 0]) ∧
    Rep s.kl s.kf of F ∧ (∀ j, j < s.kl → vv j = freeV v F s.kl j) ∧ (∃ cur, W'.heap[g]? = some (.cells cur 29 (0, 0)) ∧ s.kf ≤ cur.size ∧ ∀ j, j < s.kf → ∃ u, cur[j]? = some u ∧ SlK (fun q => q ≠ g ∧ q ≠ gv) W' u (of j)) ∧ RowF W' gv s.kl vv ∧ g ≠ gv ∧ g < W'.heap.size ∧ Below W.heap.size W W')
/-- What is handed back. -/
theorem rload_fin {W4 : World} {C g gv base n m cg cv R : Nat} {w : World} {u : Nat → Value} {v : Nat → Int} {of : Nat → List Nat} {F : LkF} (h : RLS W4 C g gv base n m cg cv w u (valK F v m []) (ofK of m [])) (hr : Rep n m of F) (hR : R < base) (hne : R ≠ g ∧ R ≠ gv) (a b c : Value) :
    (∀ j, j < n → valK F v m [] j = freeV v F n j) ∧ (∃ cur, (((w.setCell ⟨R, 0, none⟩ a).setCell ⟨R, 1, none⟩ b).setCell ⟨R, 2, none⟩ c).heap[g]? = some (.cells cur 29 (0, 0)) ∧ m ≤ cur.size ∧ ∀ j, j < m → ∃ u, cur[j]? = some u ∧ SlK (fun q => q ≠ g ∧ q ≠ gv) (((w.setCell ⟨R, 0, none⟩ a).setCell ⟨R, 1, none⟩ b).setCell ⟨R, 2, none⟩ c) u (of j)) ∧
      RowF (((w.setCell ⟨R, 0, none⟩ a).setCell ⟨R, 1, none⟩ b).setCell ⟨R, 2, none⟩ c) gv n (valK F v m []) ∧ g ≠ gv ∧ g < (((w.setCell ⟨R, 0, none⟩ a).setCell ⟨R, 1, none⟩ b).setCell ⟨R, 2, none⟩ c).heap.size := by
  obtain ⟨n1, n2, n3, n4, n5, n6⟩ := h.ne
  have hk : ∀ q, q ≠ R → (((w.setCell ⟨R, 0, none⟩ a).setCell ⟨R, 1, none⟩ b).setCell ⟨R, 2, none⟩ c).heap[q]? = w.heap[q]? := fun q e => (Below.heap_setCell _ _ _ q e).trans ((Below.heap_setCell _ _ _ q e).trans (Below.heap_setCell _ _ _ q e))
  have hfam := ((h.fam.cell hR 0 a).cell hR 1 b).cell hR 2 c
  obtain ⟨cur, r1, r2, r3⟩ := h.row
  refine ⟨fun j hj => valK_all hr v hj, ⟨cur, (hk g (fun e => hne.1 e.symm)).trans r1, r2, fun j hj => ⟨u j, r3 j hj, ?_⟩⟩, h.vals.block (hk gv (fun e => hne.2 e.symm)), n3, ?_⟩
  · have ho := hfam.own j _ _ (famL_some hj)
    have e : ofK of m [] j = of j := by unfold ofK; rw [if_pos hj]
    rw [e, natC_len] at ho
    exact own_slK ho (fun q hq => ⟨by omega, by omega⟩)
  · simp only [World.setCell, Array.size_modify]
    exact (Array.getElem?_eq_some_iff.1 r1).1
theorem info_lists3 : (Try.prog.info? 31).map (·.size) = some 3 := by kernel_rfl
theorem ret_rload {tmps : Array Value} {w : World} {R : Nat} {a b c : Value} (hp : tmps.getD 2 undef = .pointer (some ⟨R, 0, none⟩)) (hg : w.heap[R]? = some (.cells #[a, b, c] 31 (0, 0))) :
    (results Try.f24 tmps).run Try.prog w = .ok (.tuple #[.agg #[a, b, c], tmps.getD 3 undef]) w := by
  rw [results_cell_tmp rfl, hp]
  have h := run_loadVar_row (P := Try.prog) w R 31 31 #[a, b, c] (0, 0) _ hg Try.underlying31 rfl info_lists3
  simp [asAddr, h]
set_option maxHeartbeats 8000000 in
set_option maxRecDepth 100000 in
theorem rLoad_any {W : World} {s : SP} {v : Nat → Int} {F : LkF} (h : SPAt W s v F) : Calls Try.prog 24 #[s.val] W (RLoadPost s v F W) := by
  obtain ⟨A, hA⟩ : ∃ A : Obj, A = .cells s.cells 39 := ⟨_, rfl⟩
  obtain ⟨R, hR⟩ : ∃ R : Obj, R = .cells #[.int .i64 0, .slice none 0 0, .slice none 0 0] 31 := ⟨_, rfl⟩
  obtain ⟨W2, hW2⟩ : ∃ W2 : World, W2 = (W.alloc A).alloc R := ⟨_, rfl⟩
  have sz1 : (W.alloc A).heap.size = W.heap.size + 1 := Array.size_push ..
  have sz2 : W2.heap.size = W.heap.size + 2 := by rw [hW2]; exact (Array.size_push ..).trans (by rw [sz1])
  have B2 : Below W.heap.size W W2 := by rw [hW2]; exact ((Below.refl _ W).alloc (Nat.le_refl _) A).alloc (by rw [sz1]; omega) R
  have e0 : W2.heap[W.heap.size]? = some A := by
    rw [hW2]
    exact (((Below.refl (W.heap.size + 1) (W.alloc A)).alloc (by omega) R).block W.heap.size (by omega)).trans (heap_alloc_new W A)
  have e1 : W2.heap[W.heap.size + 1]? = some R := by
    rw [hW2]
    have := heap_alloc_new (W.alloc A) R
    rw [sz1] at this
    exact this
  have hQ : ∀ V, Below W2.heap.size W2 V → SPAt V s v F ∧
      (V.cell? ⟨W.heap.size, 0, none⟩ = some (.slice s.pv s.kv s.cv) ∧ V.cell? ⟨W.heap.size, 1, none⟩ = some (.slice s.pl s.kl s.cl) ∧ V.cell? ⟨W.heap.size, 2, none⟩ = some (.slice s.pn s.kn s.cn) ∧ V.cell? ⟨W.heap.size, 3, none⟩ = some (.slice s.pp s.kp s.cp) ∧ V.cell? ⟨W.heap.size, 4, none⟩ = some (.slice s.pf s.kf s.cf) ∧ V.cell? ⟨W.heap.size, 5, none⟩ = some (.slice s.pa s.ka s.ca)) ∧
      V.heap[W.heap.size + 1]? = some R ∧ Below W.heap.size W V := by
    intro V hV
    have c0 := (hV.block W.heap.size (by omega)).trans e0
    have c1 := (hV.block (W.heap.size + 1) (by omega)).trans e1
    rw [hA] at c0
    have hB := B2.trans (hV.mono (by omega))
    exact ⟨h.below hB, ⟨row_cell c0 rfl, row_cell c0 rfl, row_cell c0 rfl, row_cell c0 rfl, row_cell c0 rfl, row_cell c0 rfl⟩, c1, hB⟩
  have CK := Lib.hid (rCheck_any (h.below B2))
  have HQ := Lib.hid hQ
  obtain ⟨_, ⟨b0, b1, b2, b3, b4, b5⟩, _, _⟩ := hQ W2 (Below.refl _ _)
  have HSZ := Lib.hid sz2
  clear hQ e0 e1 B2 sz1 sz2 h
  unfold SP.val SP.cells at *
  subst hA
  go_enter Try.func24, Try.ntmps24
  go_wp2_with fail
  rw [← hR, ← hW2]
  clear hW2
  refine CK.out.mono ?_
  rintro e w1 ⟨a, b, rfl, hw, hb⟩
  have hbv : Below W2.heap.size W2 (w1.alloc (.cells #[.int .i64 a, .int .i64 b] 49)) := hb.alloc hb.size _
  obtain ⟨hs, ⟨n0, n1, n2, n3, n4, n5⟩, hr0, hB⟩ := HQ.out _ hbv
  have HW := Lib.hid hw; have HB := Lib.hid hB; have HBV := Lib.hid hbv
  clear hw hb hB hbv hs b0 b1 b2 b3 b4 b5 CK
  unfold wrV
  by_cases ha : a = 0
  · obtain ⟨hf, hb0⟩ := HW.out.zero ha
    obtain ⟨q1, q2, q3, q4, q5, q6⟩ := SP.fits_is hf
    subst ha hb0
    obtain ⟨of, hof⟩ : ∃ of, Rep s.kl s.kf of F := rep_of_ok (by have := HW.out; rw [hf] at this; exact this)
    have CN := Lib.hid (fun V => rnew_ok (W := V) q5 q6)
    have HOF := Lib.hid hof; have HN := Lib.hid q5; have HM := Lib.hid q6
    obtain ⟨gn, on, en, _, _⟩ := (HQ.out _ HBV.out).1.n 0 (by omega)
    obtain ⟨gf, og, eg, _, _⟩ := (HQ.out _ HBV.out).1.f 0 (by omega)
    obtain ⟨gw, ow, ew, _, _⟩ := (HQ.out _ HBV.out).1.v 0 (by omega)
    have HQ2 : Hid (∀ V, Below W2.heap.size W2 V → V.cell? ⟨W.heap.size, 4, none⟩ = some (.slice (some ⟨gf, og, none⟩) s.kf s.cf) ∧ V.cell? ⟨W.heap.size, 2, none⟩ = some (.slice (some ⟨gn, on, none⟩) s.kl s.cn) ∧ V.cell? ⟨W.heap.size, 0, none⟩ = some (.slice (some ⟨gw, ow, none⟩) s.kl s.cv) ∧
        (∀ j, j < s.kl → V.cell? ⟨gn, on + j, none⟩ = some (.int .i64 (F.next j)) ∧ V.cell? ⟨gw, ow + j, none⟩ = some (.int .i64 (v j))) ∧ (∀ j, j < s.kf → V.cell? ⟨gf, og + j, none⟩ = some (.int .i64 (F.first j)))) := Lib.hid (fun V hV => by
      obtain ⟨h, ⟨a0, a1, a2, a3, a4, a5⟩, _, _⟩ := HQ.out V hV
      have h1 := h.n; have h2 := h.v; have h3 := h.f
      rw [en, q2] at h1; rw [ew, ← q1] at h2; rw [eg] at h3
      rw [en, q2] at a2; rw [ew, ← q1] at a0; rw [eg] at a4
      exact ⟨a4, a2, a0, fun j hj => ⟨h1.at hj, h2.at hj⟩, fun j hj => h3.at hj⟩)
    clear q1 q2 q3 q4 q5 q6 hf en eg ew
    rw [show codeR 0 = 0 from rfl]
    go_wp2_with fail
    refine (CN.out _).mono ?_
    rintro e w3 ⟨g, gv, cg, cv, rfl, hg, hv, l1, l2, hne, hb3⟩
    have HG := Lib.hid hg; have HV := Lib.hid hv; have HL1 := Lib.hid l1; have HL2 := Lib.hid l2; have HNE := Lib.hid hne; have HB3 := Lib.hid hb3
    have HR0 := Lib.hid hr0
    clear hg hv l1 l2 hne hb3 n0 n1 n2 n3 n4 n5 hr0 CN hof
    go_wp2_with fail
    obtain ⟨W4, hW4⟩ : ∃ W4, W4 = w3.alloc (.cells #[.int .i64 (s.kl : Int), .slice (some ⟨g, 0, none⟩) s.kf cg, .slice (some ⟨gv, 0, none⟩) s.kl cv] 31) := ⟨_, rfl⟩
    rw [← hW4]
    have sz4 : W4.heap.size = w3.heap.size + 1 := by rw [hW4]; exact Array.size_push ..
    have hB4 : Below W2.heap.size W2 W4 := by
      rw [hW4]
      exact (HBV.out.trans (HB3.out.mono HBV.out.size)).alloc (Nat.le_trans HBV.out.size HB3.out.size) _
    have hglt : g < w3.heap.size := by obtain ⟨cur, r1, _⟩ := HG.out; exact (Array.getElem?_eq_some_iff.1 r1).1
    have hvlt : gv < w3.heap.size := HV.out.lt
    have hst : RLS W4 w3.heap.size g gv W4.heap.size s.kl s.kf cg cv W4 (fun _ => .slice none 0 0) (fun _ => 0) (fun _ => []) := by
      have hbw : Below w3.heap.size w3 W4 := by rw [hW4]; exact (Below.refl _ w3).alloc (Nat.le_refl _) _
      obtain ⟨cur, r1, r2, r3⟩ := HG.out
      refine ⟨by rw [hW4]; exact heap_alloc_new w3 _, ⟨cur, (hbw.block g hglt).trans r1, r2, r3⟩, HV.out.block (hbw.block gv hvlt), ⟨fun i vv xs hi => ?_, fun i j vv xs v' xs' q _ hi _ hq => ?_⟩, BelowS.refl _ _ _, Nat.le_refl _, by omega, by omega, HNE.out, by omega, by omega, by omega⟩
      · unfold famL at hi
        split at hi
        · cases hi; exact World.ownsRow_nil _ _ _ _
        · cases hi
      · unfold famL at hi
        split at hi
        · cases hi; cases hq
        · cases hi
    have HST := Lib.hid hst
    have HQ3 : Hid (∀ V, BelowS (fun k => k = g ∨ k = gv) W4.heap.size W4 V → Below W2.heap.size W2 V) := Lib.hid (fun V hV => hB4.trans (hV.below hB4.size (fun k hk e => by
      have h1 := HL1.out; have h2 := HL2.out; have h3 := HBV.out.size
      rcases e with e | e <;> omega)))
    clear hst hB4 hglt hvlt sz4 hW4
    generalize W4.heap.size = base at *
    generalize w3.heap.size = C at *
    go_loopg [8] s.kf (fun n1 i wr => ∃ (k : Nat) (u : Nat → Value), i = .int .i64 (k : Int) ∧ k + n1 = s.kf ∧ RLS W4 C g gv base s.kl s.kf cg cv wr u (valK F v k []) (ofK of k []))
    case atStart =>
      refine ⟨0, _, by go_num, by omega, HST.out.congr (fun j _ => ?_) (fun j _ => ?_)⟩
      · unfold valK; rw [if_neg (by simp)]
      · unfold ofK; rw [if_neg (by omega)]; split <;> rfl
    case round =>
      obtain ⟨k, u, rfl, hkn, hS⟩ := hrel
      obtain ⟨wx, rfl⟩ : ∃ wx : World, wx = wr := ⟨_, rfl⟩
      obtain ⟨b4, b2, b0, hxs, hfs⟩ := HQ2.out wx (HQ3.out wx hS.bel)
      by_cases hlt : k < s.kf
      · obtain ⟨n', rfl⟩ : ∃ n', gk = n' + 1 := ⟨gk - 1, by omega⟩
        have i1 : (k : Int) < s.kf := by omega
        have k0 : (0 : Int) ≤ k := by omega
        have w1' : IntKind.i64.wrap ((k : Int) + 1) = (k : Int) + 1 := IntWalk.i64_in _ (by have := HM.out; omega)
        have x0 := hfs k hlt
        rw [(HOF.out.ends k hlt).1] at x0
        have HS := Lib.hid hS; have HLT := Lib.hid hlt
        clear hS hxs hfs hlt
        go_wp2_with fail
        clear x0 b4 b2 b0
        go_loopg [9] (of k).length (fun n1 x9 wr => ∃ (pre rest : List Nat) (u : Nat → Value), x9 = .int .i64 (hd rest) ∧ of k = pre ++ rest ∧ rest.length = n1 ∧ RLS W4 C g gv base s.kl s.kf cg cv wr u (valK F v k pre) (ofK of k pre))
        case atStart => exact ⟨[], of k, u, by go_num, rfl, rfl, HS.out⟩
        case round =>
          obtain ⟨pre, rest, u, rfl, hpr, hlen, hS⟩ := hrel
          obtain ⟨wx, rfl⟩ : ∃ wx : World, wx = wr := ⟨_, rfl⟩
          cases rest with
          | nil =>
            have t1 : ((-1 : Int) != -1) = false := rfl
            rw [show hd [] = -1 from rfl]
            have HS2 : Hid (RLS W4 C g gv base s.kl s.kf cg cv wx u (valK F v (k + 1) []) (ofK of (k + 1) [])) := Lib.hid (hS.congr (fun j hj => by rw [← valK_next HOF.out v HLT.out hj, hpr, List.append_nil]) (fun j _ => by rw [← ofK_next, hpr, List.append_nil]))
            clear hS hpr hlen
            go_wp2_with fail
            go_roundg n'
            case measure => omega
            case rel => exact ⟨k + 1, u, by go_num, by omega, HS2.out⟩
          | cons x r =>
            obtain ⟨m', rfl⟩ : ∃ m', gk = m' + 1 := ⟨r.length, by simpa using hlen.symm⟩
            have hxm : x ∈ of k := by rw [hpr]; simp
            have hxn : x < s.kl := HOF.out.lt k HLT.out x hxm
            have hnx : F.next x = hd r := by
              rw [(HOF.out.used k HLT.out x hxm).2.1]
              have hnd := HOF.out.nodup k HLT.out
              rw [hpr] at hnd ⊢
              rw [nx_ins hnd, if_pos rfl]
            have t1 : ((x : Int) != -1) = true := by rw [bne_iff_ne]; omega
            have x0 : (0 : Int) ≤ x := by omega
            have x1 : (x : Int) < s.kl := by omega
            rw [show hd (x :: r) = (x : Int) from rfl]
            have ek : ofK of k pre k = pre := by unfold ofK; rw [if_neg (by omega), if_pos rfl]
            obtain ⟨v0, hv0⟩ : ∃ v0, v0 = u k := ⟨_, rfl⟩
            obtain ⟨y0, y1⟩ := hS.cell HLT.out
            have hown0 := hS.fam.own k _ _ (famL_some HLT.out)
            rw [ek, natC_len, ← hv0] at hown0
            rw [← hv0] at y0
            obtain ⟨p0, q0, e0⟩ := own_slice hown0
            rw [e0] at hown0 y0
            have hplen : pre.length ≤ 2000 := by
              have h1 := List.Nodup.length_le_of_subset (HOF.out.nodup k HLT.out) (l₂ := List.range s.kl) (fun y hy => List.mem_range.2 (HOF.out.lt k HLT.out y hy))
              have h2 := HN.out
              rw [hpr] at h1
              simp at h1
              omega
            obtain ⟨n1, n2, n3, n4, n5, n6⟩ := hS.ne
            have hbs := hS.bs
            have HZ := Lib.hid (heap_alloc_new wx (.cells #[.int .i64 (x : Int)] 3))
            have HBW := Lib.hid (show base ≤ (wx.alloc (.cells #[.int .i64 (x : Int)] 3)).heap.size by rw [size1]; omega)
            have HK1 := Lib.hid (show pre.length + 1 ≤ 100000 by omega)
            have HXC := Lib.hid (show (wx.alloc (.cells #[.int .i64 (x : Int)] 3)).heap[C]? = wx.heap[C]? from Below.heap_alloc wx _ C (by omega))
            have HXG := Lib.hid (show (wx.alloc (.cells #[.int .i64 (x : Int)] 3)).heap[g]? = wx.heap[g]? from Below.heap_alloc wx _ g (by omega))
            have HCS : Hid (∀ q, q < base → some q ≠ (Value.slice p0 pre.length q0).ownBlock) := Lib.hid (fun q hq e => by have := (hown0.lt q e.symm).1; omega)
            have c1 := row_cell (i := 1) hS.box rfl
            have c1' : (wx.alloc (.cells #[.int .i64 (x : Int)] 3)).cell? ⟨C, 1, none⟩ = some (.slice (some ⟨g, 0, none⟩) s.kf cg) := (World.cell?_of_block (w := wx) (a := ⟨C, 1, none⟩) HXC.out).trans c1
            have y0' : (wx.alloc (.cells #[.int .i64 (x : Int)] 3)).cell? ⟨g, k, none⟩ = some (.slice p0 pre.length q0) := (World.cell?_of_block (w := wx) (a := ⟨g, k, none⟩) HXG.out).trans y0
            have HS := Lib.hid hS; have HOWN := Lib.hid hown0; have HE0 := Lib.hid e0; have HV0 := Lib.hid hv0; have HPR := Lib.hid hpr; have HLEN := Lib.hid hlen; have HXN := Lib.hid hxn; have HNX := Lib.hid hnx; have HEK := Lib.hid ek
            have HC4 := Lib.hid n4; have HG5 := Lib.hid n5; have HY0 := Lib.hid y0; have HC1 := Lib.hid c1; have HY1 := Lib.hid y1
            clear hS hown0 e0 hv0 hpr hlen hxn hnx ek hxm n1 n2 n3 n4 n5 n6 hbs hplen y1
            have g0 : (0 : Int) ≤ k := by omega
            go_wp2_with fail
            go_region_law (refine step_app3 rfl (.tmp 55) (.tmp 57) rfl (.slice p0 pre.length q0) pre.length (natC pre) rfl (base := base) (HOWN.out.alloc _) wx.heap.size (.int .i64 (x : Int)) rfl HZ.out rfl HBW.out HK1.out ?_; intro v4 w4 hown4 hg4 hq4; obtain ⟨N4, hN4⟩ : ∃ N4, N4 = pre.length + 1 := ⟨_, rfl⟩; rw [← hN4] at hown4; obtain ⟨p4, q4, rfl⟩ := own_slice hown4; have hx4 := (hg4.block C (by show C < (wx.alloc _).heap.size; have := HBW.out; have := HC4.out; omega) (HCS.out C HC4.out)).trans HXC.out; have hx5 := (hg4.block g (by show g < (wx.alloc _).heap.size; have := HBW.out; have := HG5.out; omega) (HCS.out g HG5.out)).trans HXG.out; have d1 := (World.cell?_of_block (w := wx) (a := ⟨C, 1, none⟩) hx4).trans HC1.out; have d2 := (World.cell?_of_block (w := wx) (a := ⟨g, k, none⟩) hx5).trans HY0.out; have d3 : w4.frozen? ⟨g, k, none⟩ = false := (by unfold World.frozen?; rw [hx5]; exact HY1.out); have HG4 := Lib.hid hg4; have HOWN4 := Lib.hid hown4; have HQ4 := Lib.hid hq4; have HN4 := Lib.hid hN4; clear hx4 hx5 hg4 hown4 hq4 hN4)
            all_goals
              have hN4 : N4 = (natC pre ++ [Value.int .i64 (x : Int)]).length := by rw [List.length_append, natC_len, HN4.out]; rfl
              have hown4 := HOWN4.out
              have hG4 := HG4.out; have hQ4 := HQ4.out
              rw [← HE0.out, HV0.out] at hG4 hQ4
              have s2 := HS.out.app HLT.out (x := x) (v4 := .slice p4 N4 q4) (ys := natC pre ++ [Value.int .i64 (x : Int)]) (hN4 ▸ hown4 : w4.ownsRow base 3 1 (.slice p4 N4 q4) (natC pre ++ [Value.int .i64 (x : Int)]).length (natC pre ++ [Value.int .i64 (x : Int)])) (by rw [HEK.out, natC_snoc]) hG4 hQ4
              rw [ofK_step] at s2
              have S2 := Lib.hid s2
              clear hN4 hown4 hG4 hQ4 s2 d1 d2 d3 HG4 HOWN4 HQ4 y0 y0' c1 c1' HOWN HZ HBW HXC HXG HCS HC1 HY0 HY1
              generalize w4.setCell ⟨g, k, none⟩ (.slice p4 N4 q4) = w5 at S2 ⊢
              generalize updV u k (.slice p4 N4 q4) = u5 at S2
              have s3 := S2.out.val HXN.out (v x)
              rw [valK_step] at s3
              have S3 := Lib.hid s3
              clear s3
              obtain ⟨b4, b2, b0, hxs, _⟩ := HQ2.out w5 (HQ3.out w5 S2.out.bel)
              have y2 := (hxs x HXN.out).2
              obtain ⟨z0, z1⟩ := S2.out.vals.get HXN.out
              have c2 := row_cell (i := 2) S2.out.box rfl
              obtain ⟨b4', b2', b0', hxs', _⟩ := HQ2.out _ (HQ3.out _ S3.out.bel)
              have y3 := (hxs' x HXN.out).1
              rw [HNX.out] at y3
              clear hxs hxs' S2 b4' b0'
              go_wp2_with fail
              go_region
              go_wp2_with fail
              go_roundg m'
              case measure => omega
              case rel => exact ⟨pre ++ [x], r, u5, by go_num, by rw [HPR.out]; simp, by have := HLEN.out; simpa using this, S3.out.drew⟩
      · obtain rfl : k = s.kf := by omega
        obtain ⟨_, _, hr1, hB5⟩ := HQ.out wx (HQ3.out wx hS.bel)
        rw [hR] at hr1
        have c0 := row_cell (i := 0) hS.box rfl; have c1 := row_cell (i := 1) hS.box rfl; have c2 := row_cell (i := 2) hS.box rfl
        have r0 := row_cell (i := 0) hr1 rfl; have r1 := row_cell (i := 1) hr1 rfl; have r2 := row_cell (i := 2) hr1 rfl
        have f0 := row_free (i := 0) hr1; have f1 := row_free (i := 1) hr1; have f2 := row_free (i := 2) hr1
        have HX := Lib.hid (box3 (.int .i64 (s.kl : Int)) (.slice (some ⟨g, 0, none⟩) s.kf cg) (.slice (some ⟨gv, 0, none⟩) s.kl cv) hr1)
        have hfin := rload_fin (R := W.heap.size + 1) hS HOF.out (v := v) (by have := HQ3.out W4 (BelowS.refl _ _ _); have h2 := this.size; have := HSZ.out; have := hS.ne; have := HL1.out; have := HBV.out.size; omega) (by have := HSZ.out; have := HL1.out; have := HL2.out; have := HBV.out.size; omega) (.int .i64 (s.kl : Int)) (.slice (some ⟨g, 0, none⟩) s.kf cg) (.slice (some ⟨gv, 0, none⟩) s.kl cv)
        have HF := Lib.hid hfin; have HB5 := Lib.hid hB5
        clear hS hr1 hB5 hfin b4 b2 b0 hxs hfs hlt hR
        go_wp2_with fail
        try simp only [Exit.inBlock, Exit.then]
        refine bodyPost_ret (ret_rload rfl HX.out) rfl ?_
        obtain ⟨f1, f2, f3, f4, f5⟩ := HF.out
        exact .inr ⟨HW.out, g, gv, cg, cv, of, _, rfl, HOF.out, f1, f2, f3, f4, f5, ((HB5.out.setCell (p := ⟨W.heap.size + 1, 0, none⟩) (by show W.heap.size ≤ W.heap.size + 1; omega) _).setCell (p := ⟨W.heap.size + 1, 1, none⟩) (by show W.heap.size ≤ W.heap.size + 1; omega) _).setCell (p := ⟨W.heap.size + 1, 2, none⟩) (by show W.heap.size ≤ W.heap.size + 1; omega) _⟩
  · rw [show codeR a = 6 from if_neg ha]
    have HA := Lib.hid ha
    have HR0 := Lib.hid hr0
    rw [hR] at hr0
    have r0 := row_cell (i := 0) hr0 rfl; have r1 := row_cell (i := 1) hr0 rfl; have r2 := row_cell (i := 2) hr0 rfl
    have f0 := row_free (i := 0) hr0; have f1 := row_free (i := 1) hr0; have f2 := row_free (i := 2) hr0
    have HX := Lib.hid (box3 (.int .i64 0) (.slice none 0 0) (.slice none 0 0) hr0)
    clear ha hr0 hR
    go_wp2_with fail
    try simp only [Exit.inBlock, Exit.then]
    refine bodyPost_ret (ret_rload rfl HX.out) rfl ?_
    exact .inl ⟨a, b, HA.out, HW.out, rfl, ((HB.out.setCell (p := ⟨W.heap.size + 1, 0, none⟩) (by show W.heap.size ≤ W.heap.size + 1; omega) _).setCell (p := ⟨W.heap.size + 1, 1, none⟩) (by show W.heap.size ≤ W.heap.size + 1; omega) _).setCell (p := ⟨W.heap.size + 1, 2, none⟩) (by show W.heap.size ≤ W.heap.size + 1; omega) _⟩
end Go.Proofs.Ytmelcohfjonjfaa
