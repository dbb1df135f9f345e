/- links: a pool and the reference's lists, side by side, in a loop whose body takes slots out or moves them. -/
import Derived.Test.YtmelcohfjonjfaaLwAll
import Derived.Test.YtmelcohfjonjfaaLjMade
namespace Go.Proofs.Ytmelcohfjonjfaa
open Go.RowKit Go.Shelf

theorem cells_not {W : World} {q : Nat} {cs : Array Value} {t : TypeId} {fz : Nat × Nat} (h : W.heap[q]? = some (.cells cs t fz)) {row : Option Nat} (hr : ∀ r, row = some r → ∃ o : Obj, W.heap[r]? = some o ∧ o.isCells = false) : some q ≠ row := by
  intro e
  obtain ⟨o, ho, hc⟩ := hr q e.symm
  rw [h] at ho; cases ho; cases hc
theorem cell_grown {W W' : World} {row : Option Nat} (hg : W.grownBy W' row) (hr : ∀ r, row = some r → ∃ o : Obj, W.heap[r]? = some o ∧ o.isCells = false) {a : Addr} {v : Value} (h : W.cell? a = some v) : W'.cell? a = some v := by
  have hlt := World.block_lt_of_cell? _ _ h
  refine (World.cell?_of_block (w := W) (w' := W') (hg.block a.block hlt (fun e => ?_))).trans h
  obtain ⟨o, ho, hc⟩ := hr a.block e.symm
  unfold World.cell? at h
  rw [ho] at h
  cases o <;> simp_all [Obj.isCells]
theorem RowF.grown {W W' : World} {g n : Nat} {f : Nat → Int} (h : RowF W g n f) {row : Option Nat} (hg : W.grownBy W' row) (hr : ∀ r, row = some r → ∃ o : Obj, W.heap[r]? = some o ∧ o.isCells = false) : RowF W' g n f := by
  obtain ⟨cur, h1, h2, h3⟩ := h
  exact ⟨cur, (hg.block g (Array.getElem?_eq_some_iff.1 h1).1 (cells_not h1 hr)).trans h1, h2, h3⟩
theorem SlK.grown {K : Nat → Prop} {W W' : World} {u : Value} {l : List Nat} (h : SlK K W u l) {row : Option Nat} (hg : W.grownBy W' row) (hr : ∀ r, row = some r → ∃ o : Obj, W.heap[r]? = some o ∧ o.isCells = false) : SlK K W' u l := by
  rcases h with h | ⟨q, c, e, hc, hK, hq, hx⟩
  · exact .inl h
  · exact .inr ⟨q, c, e, hc, hK, Nat.lt_of_lt_of_le hq hg.size, fun j hj => cell_grown hg hr (hx j hj)⟩
theorem PoolS.grown {W W' : World} {B n m : Nat} {D : LkB} {v : Nat → Int} {of : Nat → List Nat} (h : PoolS W B n m D v of) {row : Option Nat} (hg : W.grownBy W' row) (hr : ∀ r, row = some r → ∃ o : Obj, W.heap[r]? = some o ∧ o.isCells = false) : PoolS W' B n m D v of := by
  obtain ⟨F, p, r⟩ := h
  exact ⟨F, ⟨(hg.block B (Array.getElem?_eq_some_iff.1 p.box).1 (cells_not p.box hr)).trans p.box, p.rv.grown hg hr, p.rl.grown hg hr, p.rn.grown hg hr, p.rp.grown hg hr, p.rf.grown hg hr, p.ra.grown hg hr, p.ne, p.nn, p.mm, p.kv⟩, r⟩
theorem JSt.grown {W0 : World} {P : JP} {W W' : World} {v : Nat → Int} {of : Nat → List Nat} (h : JSt W0 P W v of) {D : Nat} (hD : W0.heap.size ≤ D) {row : Option Nat} (hg : W.grownBy W' row) (hr : ∀ r, row = some r → D ≤ r ∧ ∃ o : Obj, W.heap[r]? = some o ∧ o.isCells = false) : JSt W0 P W' v of := by
  have hr' : ∀ r, row = some r → ∃ o : Obj, W.heap[r]? = some o ∧ o.isCells = false := fun r e => (hr r e).2
  obtain ⟨cur, r1, r2, r3⟩ := h.ls.rows
  refine ⟨h.pool.grown hg hr', ⟨(hg.block _ (Array.getElem?_eq_some_iff.1 h.ls.box).1 (cells_not h.ls.box hr')).trans h.ls.box, ⟨cur, (hg.block _ (Array.getElem?_eq_some_iff.1 r1).1 (cells_not r1 hr')).trans r1, r2, fun j hj => ?_⟩, h.ls.vals.grown hg hr', h.ls.ne⟩, h.ap, h.lt, Nat.le_trans h.bs hg.size, ?_, h.fz⟩
  · obtain ⟨u, hu, hx⟩ := r3 j hj
    exact ⟨u, hu, hx.grown hg hr'⟩
  · have ho := h.old
    refine ⟨hg.os.trans ho.os, hg.tape.trans ho.tape, hg.output.trans ho.output, Nat.le_trans ho.size hg.size, fun k hk => (hg.block k (Nat.lt_of_lt_of_le hk ho.size) (fun e => ?_)).trans (ho.block k hk)⟩
    have := (hr k e.symm).1
    omega
/-- What one side's call leaves for the other's. -/
def Mid (P : JP) (W : World) (v : Nat → Int) (of : Nat → List Nat) (W1 : World) : Prop := PoolS W1 P.B P.n P.m P.D v of ∧ BelowS P.D.S W.heap.size W W1
theorem jst_get {W0 : World} {P : JP} {W : World} {v : Nat → Int} {of : Nat → List Nat} (h : JSt W0 P W v of) {l : Nat} (hl : l < P.m) {back : Bool} {A rest : List Nat} {x : Nat} (hord : ordL of l back = A ++ x :: rest) :
    Calls Try.prog 28 #[.pointer (some ⟨P.C, 0, none⟩), .int .i64 (x : Int)] W (OkEq (TwoI (v x) 0) W) := by
  obtain ⟨F, p, r⟩ := h.pool
  have := rget_any h.lr (x : Int)
  rwa [tail_get r hl hord] at this
theorem jst_take {W0 : World} {P : JP} {W : World} {v : Nat → Int} {of : Nat → List Nat} (h : JSt W0 P W v of) {l : Nat} (hl : l < P.m) {back : Bool} {A rest : List Nat} {x : Nat} (hord : ordL of l back = A ++ x :: rest) :
    ∃ v' of', ordL of' l back = A ++ rest ∧ (∀ y, y ∈ rest → v' y = v y) ∧
      Calls Try.prog 29 #[.pointer (some ⟨P.B, 0, none⟩), .int .i64 (x : Int)] W (fun e W1 => e = .returned (TwoI (v x) 0) ∧ Mid P W v' of' W1) ∧
      ∀ W1, Mid P W v' of' W1 → Calls Try.prog 30 #[.pointer (some ⟨P.C, 0, none⟩), .int .i64 (x : Int)] W1 (fun e W2 => e = .returned (TwoI (v x) 0) ∧ JSt W0 P W2 v' of' ∧ BelowS P.T W.heap.size W W2) := by
  obtain ⟨F, p, r⟩ := h.pool
  obtain ⟨of', e, ho⟩ := tail_take (v := v) r hl hord
  obtain ⟨_, _, _, _, hx⟩ := ord_out r hl hord
  have hZ := take_fz h.fz (x : Int)
  have C1 := take_any h.pool (x : Int)
  have C2 := fun W1 (hb : BelowS P.D.S W.heap.size W W1) => rtake_any (h.mid hb) (x : Int)
  rw [e] at hZ C1
  refine ⟨updF v x 0, of', ho, fun y hy => updF_other (fun e => hx (e ▸ hy)), C1, ?_⟩
  rintro W1 ⟨hp, hb⟩
  have C2 := C2 W1 hb
  rw [e] at C2
  refine C2.mono ?_
  rintro e W2 ⟨he, hls, hb2⟩
  exact ⟨he, h.both hp hb hls hb2 hZ, (belowT1 hb).trans ((belowT2 hb2).less hb.size)⟩
theorem jst_move {W0 : World} {P : JP} {W : World} {v : Nat → Int} {of : Nat → List Nat} (h : JSt W0 P W v of) {l to : Nat} (hl : l < P.m) (hto : to < P.m) {back : Bool} {A rest : List Nat} {x : Nat} (hord : ordL of l back = A ++ x :: rest) :
    ∃ of' A', ordL of' l back = A' ++ rest ∧
      Calls Try.prog 31 #[.pointer (some ⟨P.B, 0, none⟩), .int .i64 (x : Int), .int .i64 (to : Int), .bool (!back)] W (fun e W1 => e = .returned (.int .i64 0) ∧ Mid P W v of' W1) ∧
      ∀ W1, Mid P W v of' W1 → Calls Try.prog 32 #[.pointer (some ⟨P.C, 0, none⟩), .int .i64 (x : Int), .int .i64 (to : Int), .bool (!back)] W1 (fun e W2 => e = .returned (.int .i64 0) ∧ JSt W0 P W2 v of' ∧ BelowS P.T W.heap.size W W2) := by
  obtain ⟨F, p, r⟩ := h.pool
  obtain ⟨of', A', e, ho⟩ := tail_move (v := v) r hl hto hord
  have hZ := move_fz h.fz (x : Int) (to : Int) (!back)
  have C1 := move_any h.pool (x : Int) (to : Int) (!back)
  have C2 := fun W1 (hb : BelowS P.D.S W.heap.size W W1) => rmove_any (h.mid hb) (x : Int) (to : Int) (!back)
  rw [e] at hZ C1
  refine ⟨of', A', ho, C1, ?_⟩
  rintro W1 ⟨hp, hb⟩
  have C2 := C2 W1 hb
  rw [e] at C2
  refine C2.mono ?_
  rintro e W2 ⟨he, hls, hb2⟩
  exact ⟨he, h.both hp hb hls hb2 hZ, (belowT1 hb).trans ((belowT2 hb2).less hb.size)⟩
end Go.Proofs.Ytmelcohfjonjfaa
