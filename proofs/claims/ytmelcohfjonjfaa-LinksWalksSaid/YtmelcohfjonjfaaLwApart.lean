/- links: a pool and the reference's lists, and a row of the caller's own that lies apart from the lists' rows. -/
import Derived.Test.YtmelcohfjonjfaaLwMove
namespace Go.Proofs.Ytmelcohfjonjfaa
open Go.RowKit Go.Shelf
attribute [local go_sem] Oper.semAt_some

section
variable {P : Program} (w : World)
/-- Appending to a row of one's own: the row lies where it lay, or in memory that is new. -/
theorem run_append_where (base : Nat) (t ty e : TypeId) (i : TypeInfo) (z : Value) (size bytes : Nat) (ht : P.underlying t = some (.slice e)) (hi : P.info? e = some i) (hz : i.zero = some z)
    (hsize : i.size = size) (hby : i.bytes = bytes) (hzs : z.cells.size = size) (hsz : 0 < size)
    (v : Value) (n : Nat) (xs : List Value) (hown : w.ownsRow base e size v n xs)
    (a : Addr) (m c : Nat) (news : List Value) (hl : news.length = m * size) (hnews : ∀ j u, news[j]? = some u → w.cell? (a.add j) = some u) (h1 : ∀ u ∈ news, u.oneCell' = true)
    (h63 : n + m ≤ maxLen) (hbytes : (n + m) * bytes ≤ 140737488355328) (hbase : base ≤ w.heap.size) :
    ∃ v' w', (Builtin.append_ #[t, t] ty #[v, .slice (some a) m c]).run P w = .ok v' w' ∧ w'.ownsRow base e size v' (n + m) (xs ++ news) ∧ w.grownBy w' v.ownBlock ∧
      (∀ k, v'.ownBlock = some k → v.ownBlock = some k ∨ w.heap.size ≤ k) := by
  obtain ⟨v', w', hr, h2, h3, h4⟩ := run_append_own (P := P) w base t ty e i z size bytes ht hi hz hsize hby hzs hsz v n xs hown a m c news hl hnews h1 h63 hbytes hbase
  refine ⟨v', w', hr, h2, h3, ?_⟩
  rcases hown.2 with ⟨rfl, rfl⟩ | ⟨g, cap, cur, rfl, hbg, hg, hnc, hcm, hcs, htake⟩
  · obtain ⟨v2, w2, hr2, k2, _⟩ := run_append_own (P := P) w w.heap.size t ty e i z size bytes ht hi hz hsize hby hzs hsz (.slice none 0 0) 0 xs ⟨hown.1, .inl ⟨rfl, rfl⟩⟩ a m c news hl hnews h1 h63 hbytes (Nat.le_refl _)
    rw [hr] at hr2
    injection hr2 with e1 e2
    subst e1
    exact fun k hk => .inr (k2.lt k hk).1
  · by_cases hroom : n + m ≤ cap
    · subst hsize
      have hfit : n * i.size + news.length ≤ cur.size := by rw [hl, hcs, ← Nat.add_mul]; exact Nat.mul_le_mul_right _ hroom
      have hr2 := run_append_room (P := P) w t ty e i ht hi g n cap cur hg a m c news hl hnews h1 hroom hfit
      rw [hr] at hr2
      injection hr2 with e1 e2
      subst e1
      exact fun k hk => .inl hk
    · subst hsize
      subst hby
      have holds : ∀ j u, xs[j]? = some u → w.cell? ((⟨g, 0, none⟩ : Addr).add j) = some u := hown.cells (g := g) rfl
      have hr2 := run_append_grow (P := P) w t ty e i z ht hi hz ⟨g, 0, none⟩ n cap xs hown.1 holds a m c news hl hnews (by omega) (by simp only [maxLen] at h63; omega) (growslice_fits (by omega) hbytes)
      rw [hr] at hr2
      injection hr2 with e1 e2
      subst e1
      intro k hk
      refine .inr ?_
      simp [Value.ownBlock] at hk
      omega
end
theorem wpListIn_append_where {F : Fence} {n : Nat} {P : Program} (w : World) {ops : Array Oper} {rest : List Oper} {o : Oper} {a : Act} {Q : Exit → Act → World → Prop}
    (hg : o.guard = none) (s x : Operand) (t : TypeId) (hop : o.op = Op.call { callee := Callee.builtin Builtin.append, args := #[s, x], argTypes := #[t, t] })
    (base : Nat) (e : TypeId) (i : TypeInfo) (z : Value) (size bytes : Nat) (h1 : P.underlying t = some (.slice e)) (h2 : P.info? e = some i) (h3 : i.zero = some z) (h4 : i.size = size) (h5 : i.bytes = bytes) (h6 : z.cells.size = size) (h7 : 0 < size)
    (v : Value) (k : Nat) (xs : List Value) (hs : a.eval s = v) (hown : w.ownsRow base e size v k xs) (ad : Addr) (m c : Nat) (news : List Value) (hx : a.eval x = .slice (some ad) m c) (hn : news.length = m * size)
    (hc : ∀ j u, news[j]? = some u → w.cell? (ad.add j) = some u) (h1c : ∀ u ∈ news, u.oneCell' = true) (b1 : k + m ≤ maxLen) (b2 : (k + m) * bytes ≤ 140737488355328) (b3 : base ≤ w.heap.size)
    (hK : ∀ v' w', w'.ownsRow base e size v' (k + m) (xs ++ news) → w.grownBy w' v.ownBlock → (∀ k, v'.ownBlock = some k → v.ownBlock = some k ∨ w.heap.size ≤ k) → wpListIn F n P ops Q rest (a.put o.dst v') w') :
    wpListIn F n P ops Q (o :: rest) a w := by
  refine wpListIn_plain hg fun K hK' => ?_
  obtain ⟨v', w', hrun, r1, r2, r3⟩ := run_append_where (P := P) w base t o.type e i z size bytes h1 h2 h3 h4 h5 h6 h7 v k xs hown ad m c news hn hc h1c b1 b2 b3
  unfold Oper.wpIn
  refine ⟨?_, ?_⟩
  · simp [Oper.about, hop, resolve, Target.leads, Sem.run_pure]
  · rw [Oper.semAt_plain F _ _ (by rw [hop]; intro c hc'; cases hc')]
    simp [execOp, hop, resolve, invoke, builtin, hs, hx, hrun, Result.andThen]
    exact hK' _ _ (hK v' w' r1 r2 r3)
def JP.X (P : JP) (X : Nat → Prop) (q : Nat) : Prop := P.K q ∧ ¬ X q
theorem SlK.less {K K' : Nat → Prop} {W : World} {u : Value} {l : List Nat} (h : SlK K W u l) (hk : ∀ q, K q → q < W.heap.size → K' q) : SlK K' W u l := by
  rcases h with h | ⟨q, c, e, hc, hK, hq, hx⟩
  · exact .inl h
  · exact .inr ⟨q, c, e, hc, hk q hK hq, hq, hx⟩
theorem LsAt.less {K K' : Nat → Prop} {W : World} {C g gv cg cv n m : Nat} {v : Nat → Int} {of : Nat → List Nat} (h : LsAt K W C g gv cg cv n m v of) (hk : ∀ q, K q → q < W.heap.size → K' q) : LsAt K' W C g gv cg cv n m v of := by
  obtain ⟨cur, r1, r2, r3⟩ := h.rows
  exact ⟨h.box, ⟨cur, r1, r2, fun j hj => by obtain ⟨u, hu, hx⟩ := r3 j hj; exact ⟨u, hu, hx.less hk⟩⟩, h.vals, h.ne⟩
theorem LsAt.grown {K : Nat → Prop} {W W' : World} {C g gv cg cv n m : Nat} {v : Nat → Int} {of : Nat → List Nat} (h : LsAt K W C g gv cg cv n m v of) {row : Option Nat} (hg : W.grownBy W' row) (hr' : ∀ r, row = some r → ∃ o : Obj, W.heap[r]? = some o ∧ o.isCells = false) : LsAt K W' C g gv cg cv n m v of := by
  obtain ⟨cur, r1, r2, r3⟩ := h.rows
  refine ⟨(hg.block _ (Array.getElem?_eq_some_iff.1 h.box).1 (cells_not h.box hr')).trans h.box, ⟨cur, (hg.block _ (Array.getElem?_eq_some_iff.1 r1).1 (cells_not r1 hr')).trans r1, r2, fun j hj => ?_⟩, h.vals.grown hg hr', h.ne⟩
  obtain ⟨u, hu, hx⟩ := r3 j hj
  exact ⟨u, hu, hx.grown hg hr'⟩
/-- Both hold the same values and lists, and no list's row is one of X. -/
structure JX (W0 : World) (P : JP) (X : Nat → Prop) (W : World) (v : Nat → Int) (of : Nat → List Nat) : Prop where
  j : JSt W0 P W v of
  x : LsAt (P.X X) W P.C P.g P.gv P.cg P.cv P.n P.m v of
  xl : ∀ q, X q → q < W.heap.size
theorem JX.kok {W0 : World} {P : JP} {X : Nat → Prop} {W : World} {v : Nat → Int} {of : Nat → List Nat} (h : JX W0 P X W v of) : KOk (P.X X) W.heap.size P.C P.g P.gv := by
  have hb := h.j.bs
  obtain ⟨k1, k2, k3, k4, k5, k6, k7⟩ := h.j.kok
  exact ⟨fun q hq => ⟨k1 q (by omega), fun e => by have := h.xl q e; omega⟩, fun e => k2 e.1, fun e => k3 e.1, fun e => k4 e.1, by omega, by omega, by omega⟩
theorem JX.mid {W0 : World} {P : JP} {X : Nat → Prop} {W W1 : World} {v : Nat → Int} {of : Nat → List Nat} (h : JX W0 P X W v of) (hb : BelowS P.D.S W.heap.size W W1) : LrSt (P.X X) W.heap.size W1 P.C P.g P.gv P.cg P.cv P.n P.m v of := by
  have hk := h.j.kok.lt
  have hbs := h.j.bs
  obtain ⟨F, p, r⟩ := h.j.pool
  exact ⟨h.x.keep hb.size (hb.block _ (by omega) h.j.ap.2.2.2.2) (hb.block _ (by omega) h.j.ap.2.2.1) (hb.block _ (by omega) h.j.ap.2.2.2.1) (fun q hq hlt => hb.block q hlt hq.1.2.2.2), h.kok, hb.size, p.nn, p.mm, ⟨F, r⟩⟩
theorem JX.both {W0 : World} {P : JP} {X : Nat → Prop} {W W1 W2 : World} {v v' : Nat → Int} {of of' : Nat → List Nat} (h : JX W0 P X W v of) (hp : PoolS W1 P.B P.n P.m P.D v' of') (hb : BelowS P.D.S W.heap.size W W1) (hl : LsAt (P.X X) W2 P.C P.g P.gv P.cg P.cv P.n P.m v' of') (hb2 : BelowS (LsS P.g P.gv) W1.heap.size W1 W2) (hz : FZ P.n P.m v' of') : JX W0 P X W2 v' of' :=
  ⟨h.j.both hp hb (hl.less fun q hq _ => hq.1) hb2 hz, hl, fun q hq => Nat.lt_of_lt_of_le (h.xl q hq) (Nat.le_trans hb.size hb2.size)⟩
theorem JX.grown {W0 : World} {P : JP} {X : Nat → Prop} {W W' : World} {v : Nat → Int} {of : Nat → List Nat} (h : JX W0 P X W v of) {D : Nat} (hD : W0.heap.size ≤ D) {row : Option Nat} (hg : W.grownBy W' row) (hr : ∀ r, row = some r → D ≤ r ∧ ∃ o : Obj, W.heap[r]? = some o ∧ o.isCells = false) : JX W0 P X W' v of :=
  ⟨h.j.grown hD hg hr, h.x.grown hg (fun r e => (hr r e).2), fun q hq => Nat.lt_of_lt_of_le (h.xl q hq) hg.size⟩
theorem JX.below {W0 : World} {P : JP} {X : Nat → Prop} {W W' : World} {v : Nat → Int} {of : Nat → List Nat} (h : JX W0 P X W v of) (hb : Below W.heap.size W W') : JX W0 P X W' v of :=
  ⟨h.j.below hb, h.x.grown (grownBy_of_below hb none) (fun r e => by cases e), fun q hq => Nat.lt_of_lt_of_le (h.xl q hq) hb.size⟩
/-- The caller's own box and rows: r is appended to. -/
def OwnX (u : Value) (b : Nat) (r : Value) (q : Nat) : Prop := q = b ∨ r.ownBlock = some q ∨ u.ownBlock = some q
/-- The caller has appended to its row. -/
theorem JX.app {W0 : World} {P : JP} {u : Value} {b : Nat} {r r' : Value} {W W' : World} {v : Nat → Int} {of : Nat → List Nat} (h : JX W0 P (OwnX u b r) W v of) (hb : P.base ≤ b) (hr : ∀ q, r.ownBlock = some q → P.base ≤ q) (hk : BelowS (fun q => q = b ∨ r.ownBlock = some q) W.heap.size W W')
    (hr' : ∀ q, r'.ownBlock = some q → r.ownBlock = some q ∨ W.heap.size ≤ q) (hl' : ∀ q, r'.ownBlock = some q → q < W'.heap.size) : JX W0 P (OwnX u b r') W' v of := by
  have hlt := h.j.lt
  have hbs := h.j.bs
  have hkl := h.j.kok.lt
  have far : ∀ q, q < P.base → W'.heap[q]? = W.heap[q]? := fun q hq => hk.block q (by omega) (fun e => by
    rcases e with e | e
    · omega
    · have := hr q e; omega)
  have hx : LsAt (P.X (fun q => OwnX u b r q ∨ OwnX u b r' q)) W P.C P.g P.gv P.cg P.cv P.n P.m v of := h.x.less fun q hq hlt => ⟨hq.1, fun e => by
    rcases e with e | e | e | e
    · exact hq.2 e
    · exact hq.2 (.inl e)
    · rcases hr' q e with e | e
      · exact hq.2 (.inr (.inl e))
      · omega
    · exact hq.2 (.inr (.inr e))⟩
  have hx2 := hx.keep hk.size (far _ (by omega)) (far _ (by omega)) (far _ (by omega)) (fun q hq hlt => hk.block q hlt (fun e => hq.2 (.inl (e.elim .inl (fun e => .inr (.inl e))))))
  have hB := hlt P.B (.inl rfl)
  obtain ⟨F, p, rr⟩ := h.j.pool
  refine ⟨⟨⟨F, p.block (fun k hk2 => far k ?_), rr⟩, hx2.less (fun q hq _ => hq.1), h.j.ap, hlt, Nat.le_trans hbs hk.size, ⟨hk.os.trans h.j.old.os, hk.tape.trans h.j.old.tape, hk.output.trans h.j.old.output, Nat.le_trans h.j.old.size hk.size, fun k hk2 => (far k (by omega)).trans (h.j.old.block k hk2)⟩, h.j.fz⟩, hx2.less (fun q hq _ => ⟨hq.1, fun e => hq.2 (.inr e)⟩), ?_⟩
  · rcases hk2 with e | e
    · subst e; exact hB.2
    · exact (hlt k (.inr (.inl e))).2
  · rintro q (e | e | e)
    · have := h.xl b (.inl rfl); have := hk.size; omega
    · exact hl' q e
    · have := h.xl q (.inr (.inr e)); have := hk.size; omega
theorem jx_take {W0 : World} {P : JP} {X : Nat → Prop} {W : World} {v : Nat → Int} {of : Nat → List Nat} (h : JX W0 P X W v of) {l : Nat} (hl : l < P.m) {back : Bool} {A rest : List Nat} {x : Nat} (hord : ordL of l back = A ++ x :: rest) :
    ∃ v' of', ordL of' l back = A ++ rest ∧ (∀ y, y ∈ rest → v' y = v y) ∧
      Calls Try.prog 29 #[.pointer (some ⟨P.B, 0, none⟩), .int .i64 (x : Int)] W (fun e W1 => e = .returned (TwoI (v x) 0) ∧ Mid P W v' of' W1) ∧
      ∀ W1, Mid P W v' of' W1 → Calls Try.prog 30 #[.pointer (some ⟨P.C, 0, none⟩), .int .i64 (x : Int)] W1 (fun e W2 => e = .returned (TwoI (v x) 0) ∧ JX W0 P X W2 v' of' ∧ BelowS P.T W.heap.size W W2) := by
  obtain ⟨F, p, r⟩ := h.j.pool
  obtain ⟨of', e, ho⟩ := tail_take (v := v) r hl hord
  obtain ⟨_, _, _, _, hx⟩ := ord_out r hl hord
  have hZ := take_fz h.j.fz (x : Int)
  have C1 := take_any h.j.pool (x : Int)
  have C2 := fun W1 (hb : BelowS P.D.S W.heap.size W W1) => rtake_any (h.mid hb) (x : Int)
  rw [e] at hZ C1
  refine ⟨updF v x 0, of', ho, fun y hy => updF_other (fun e => hx (e ▸ hy)), C1, ?_⟩
  rintro W1 ⟨hp, hb⟩
  have C2 := C2 W1 hb
  rw [e] at C2
  refine C2.mono ?_
  rintro e W2 ⟨he, hls, hb2⟩
  exact ⟨he, h.both hp hb hls hb2 hZ, (belowT1 hb).trans ((belowT2 hb2).less hb.size)⟩
theorem jx_move {W0 : World} {P : JP} {X : Nat → Prop} {W : World} {v : Nat → Int} {of : Nat → List Nat} (h : JX W0 P X W v of) {l to : Nat} (hl : l < P.m) (hto : to < P.m) {back : Bool} {A rest : List Nat} {x : Nat} (hord : ordL of l back = A ++ x :: rest) :
    ∃ of' A', ordL of' l back = A' ++ rest ∧
      Calls Try.prog 31 #[.pointer (some ⟨P.B, 0, none⟩), .int .i64 (x : Int), .int .i64 (to : Int), .bool (!back)] W (fun e W1 => e = .returned (.int .i64 0) ∧ Mid P W v of' W1) ∧
      ∀ W1, Mid P W v of' W1 → Calls Try.prog 32 #[.pointer (some ⟨P.C, 0, none⟩), .int .i64 (x : Int), .int .i64 (to : Int), .bool (!back)] W1 (fun e W2 => e = .returned (.int .i64 0) ∧ JX W0 P X W2 v of' ∧ BelowS P.T W.heap.size W W2) := by
  obtain ⟨F, p, r⟩ := h.j.pool
  obtain ⟨of', A', e, ho⟩ := tail_move (v := v) r hl hto hord
  have hZ := move_fz h.j.fz (x : Int) (to : Int) (!back)
  have C1 := move_any h.j.pool (x : Int) (to : Int) (!back)
  have C2 := fun W1 (hb : BelowS P.D.S W.heap.size W W1) => rmove_any (h.mid hb) (x : Int) (to : Int) (!back)
  rw [e] at hZ C1
  refine ⟨of', A', ho, C1, ?_⟩
  rintro W1 ⟨hp, hb⟩
  have C2 := C2 W1 hb
  rw [e] at C2
  refine C2.mono ?_
  rintro e W2 ⟨he, hls, hb2⟩
  exact ⟨he, h.both hp hb hls hb2 hZ, (belowT1 hb).trans ((belowT2 hb2).less hb.size)⟩
/-- What is left of the list that is gone through. -/
def Left (W0 : World) (P : JP) (u : Value) (b : Nat) (r : Value) (l : Nat) (back : Bool) (v : Nat → Int) (rest : List Nat) (W : World) : Prop :=
  ∃ v' of' A, JX W0 P (OwnX u b r) W v' of' ∧ ordL of' l back = A ++ rest ∧ ∀ y, y ∈ rest → v' y = v y
def WwS (P : JP) (b q : Nat) : Prop := P.T q ∨ q = b
/-- What holds between two rounds of the law's walk. -/
def WwI (W0 : World) (P : JP) (w : World) (u : Value) (b : Nat) (l : Nat) (back : Bool) (v : Nat → Int) (L : List Nat) (pre : List Nat) (W : World) : Prop :=
  BelowS (WwS P b) w.heap.size w W ∧ ∃ r, Boxed W b 29 r ∧ W.ownsRow w.heap.size 3 1 r pre.length (natC pre) ∧ Left W0 P u b r l back v (L.drop pre.length) W
theorem wwI_own {W0 : World} {P : JP} {w : World} {u : Value} {b l : Nat} {back : Bool} {v : Nat → Int} {L : List Nat} (hD : W0.heap.size ≤ w.heap.size) : OwnFrom w.heap.size (WwI W0 P w u b l back v L) := by
  rintro pre A B row ⟨h1, r, h2, h3, v', of', C, h4, h5, h6⟩ hg hr
  have hr' : ∀ r, row = some r → ∃ o : Obj, A.heap[r]? = some o ∧ o.isCells = false := fun r e => (hr r e).2
  obtain ⟨r', k1, k2, k3⟩ := (holdsRow_own w.heap.size b 29 3 1 (fun pre : List Nat => pre.length) (fun pre => natC pre) (fun _ v => v = r)) pre A B row ⟨r, h2, h3, rfl⟩ hg hr'
  subst k3
  exact ⟨belowS_own (Nat.le_refl _) () A B row h1 hg hr, r', k1, k2, v', of', C, h4.grown hD hg hr, h5, h6⟩
theorem JSt.notT {W0 : World} {P : JP} {W : World} {v : Nat → Int} {of : Nat → List Nat} (h : JSt W0 P W v of) {q : Nat} (hq : P.base ≤ q) : ¬ P.T q := fun e => e.elim (h.far hq).1 (h.far hq).2
theorem row_keep {w V : World} {base : Nat} {e : TypeId} {size : Nat} {v : Value} {n : Nat} {xs : List Value} (h : w.ownsRow base e size v n xs) (hb : ∀ q, v.ownBlock = some q → V.heap[q]? = w.heap[q]?) : V.ownsRow base e size v n xs := by
  refine ⟨h.1, ?_⟩
  rcases h.2 with hn | ⟨g, cap, cur, e1, hb1, hg, rest⟩
  · exact .inl hn
  · exact .inr ⟨g, cap, cur, e1, hb1, (hb g (by rw [e1]; rfl)).trans hg, rest⟩
theorem row_form {w : World} {base : Nat} {e : TypeId} {size : Nat} {v : Value} {n : Nat} {xs : List Value} (h : w.ownsRow base e size v n xs) : ∃ p c, v = .slice p n c := by
  rcases h.2 with ⟨e1, h0⟩ | ⟨g, cap, cur, e1, _⟩
  · exact ⟨none, 0, by rw [e1, h0]⟩
  · exact ⟨_, _, e1⟩
theorem kf_of_T {P : JP} {D : Nat} {W W' : World} (h : BelowS P.T W.heap.size W W') (hT : ∀ q, D ≤ q → ¬ P.T q) : KeepsFrom D W W' :=
  ⟨h.size, fun k o hk ho _ => (h.block k (Array.getElem?_eq_some_iff.1 ho).1 (hT k hk)).trans ho⟩
/-- The append of the slot that was yielded. -/
theorem ww_app {W0 : World} {P : JP} {w W w1 : World} {u : Value} {b : Nat} {r r' : Value} {k m : Nat} {xs ys : List Value} {tmp : Obj} {v : Nat → Int} {of : Nat → List Nat} (h : JX W0 P (OwnX u b r) W v of) (hb : P.base ≤ b) (hw : P.base ≤ w.heap.size) (hbs : BelowS (WwS P b) w.heap.size w W)
    (hbx : Boxed W b 29 r) (hown : W.ownsRow w.heap.size 3 1 r k xs) (hown' : w1.ownsRow w.heap.size 3 1 r' m ys) (hgrow : (W.alloc tmp).grownBy w1 r.ownBlock) (hwh : ∀ q, r'.ownBlock = some q → r.ownBlock = some q ∨ (W.alloc tmp).heap.size ≤ q) :
    Boxed w1 b 29 r ∧ Boxed (w1.setCell ⟨b, 0, none⟩ r') b 29 r' ∧ (w1.setCell ⟨b, 0, none⟩ r').ownsRow w.heap.size 3 1 r' m ys ∧ KeepsOthers W (w1.setCell ⟨b, 0, none⟩ r') ∧ BelowS (WwS P b) w.heap.size w (w1.setCell ⟨b, 0, none⟩ r') ∧ JX W0 P (OwnX u b r') (w1.setCell ⟨b, 0, none⟩ r') v of := by
  obtain ⟨n1, n2, n3, n4, n5⟩ := app_row hbx (by decide) hown hbs.size hown' hgrow
  have hs1 : W.heap.size + 1 ≤ w1.heap.size := by have := hgrow.size; rwa [World.size_alloc] at this
  refine ⟨n1, n2, n3, n4, hbs.trans ⟨n5.os, n5.tape, n5.output, n5.size, fun q hq hn => n5.block q hq (fun e => hn (.inr e))⟩, ?_⟩
  refine h.app hb (fun q e => Nat.le_trans hw (hown.lt q e).1) ⟨n5.os, n5.tape, n5.output, n5.size, fun q hq hn => ?_⟩ (fun q e => ?_) (fun q e => (n3.lt q e).2)
  · rw [Below.heap_setCell _ _ _ _ (fun e => hn (.inl e)), hgrow.block q (by rw [World.size_alloc]; omega) (fun e => hn (.inr e.symm)), Below.heap_alloc _ _ _ hq]
  · rcases hwh q e with e | e
    · exact .inl e
    · rw [World.size_alloc] at e; exact .inr (by omega)
/-- The round's end. -/
theorem ww_next {W0 : World} {P : JP} {w W3 W4 : World} {u : Value} {b l : Nat} {back : Bool} {r : Value} {v v' : Nat → Int} {of' : Nat → List Nat} {L pre A rest : List Nat} {x : Nat} (hb : P.base ≤ b) (hw : P.base ≤ w.heap.size) (hI : BelowS (WwS P b) w.heap.size w W3) (hbx : Boxed W3 b 29 r) (hown : W3.ownsRow w.heap.size 3 1 r (pre.length + 1) (natC (pre ++ [x])))
    (h4 : BelowS P.T W3.heap.size W3 W4) (hJ : JX W0 P (OwnX u b r) W4 v' of') (hord : ordL of' l back = A ++ rest) (hval : ∀ y, y ∈ rest → v' y = v y) (hL : L = pre ++ x :: rest) : WwI W0 P w u b l back v L (pre ++ [x]) W4 := by
  have hd : L.drop (pre ++ [x]).length = rest := by rw [hL, show pre ++ x :: rest = (pre ++ [x]) ++ rest by simp, List.drop_left]
  refine ⟨hI.trans ⟨h4.os, h4.tape, h4.output, h4.size, fun q hq hn => h4.block q (Nat.lt_of_lt_of_le hq hI.size) (fun e => hn (.inl e))⟩, r, ?_, ?_, v', of', A, hJ, ?_, ?_⟩
  · exact (h4.block b (Array.getElem?_eq_some_iff.1 hbx).1 (hJ.j.notT hb)).trans hbx
  · rw [List.length_append]
    exact row_keep hown fun q e => h4.block q (hown.lt q e).2 (hJ.j.notT (Nat.le_trans hw (hown.lt q e).1))
  · rw [hd]; exact hord
  · rw [hd]; exact hval
/-- What the iterator reads. -/
theorem ww_reads {W0 : World} {P : JP} {w W : World} {u : Value} {b l K : Nat} {back : Bool} {v : Nat → Int} {L pre : List Nat} (hI : WwI W0 P w u b l back v L pre W) (hb : ∀ V, BelowS (WwS P b) w.heap.size w V → V.heap[K]? = some (.cells #[.pointer (some ⟨P.B, 0, none⟩)] 24 (0, 0)) ∧ V.heap[K + 1]? = some (.cells #[.int .i64 (l : Int)] 3 (0, 0)) ∧ V.heap[K + 1 + 1]? = some (.cells #[.bool back] 4 (0, 0))) :
    AWalk K P.B P.n P.m P.D l back v L pre W := by
  obtain ⟨h1, r, _, _, v', of', A, h4, h5, h6⟩ := hI
  obtain ⟨b1, b2, b3⟩ := hb W h1
  exact ⟨b1, b2, b3, v', of', A, h4.j.pool, h5, h6⟩
/-- The caller lays a box of its own. -/
theorem JX.start {W0 : World} {P : JP} {V W : World} {u : Value} {v : Nat → Int} {of : Nat → List Nat} (h : JSt W0 P V v of) (hb : Below V.heap.size V W) (hu : ∀ q, u.ownBlock = some q → V.heap.size ≤ q ∧ q < W.heap.size) (o : Obj) : JX W0 P (OwnX u W.heap.size (.slice none 0 0)) (W.alloc o) v of := by
  have hal := hb.trans (((Below.refl W.heap.size W).alloc (Nat.le_refl _) o).mono hb.size)
  have hs := hb.size
  refine ⟨h.below hal, (h.ls.less (K' := P.X (OwnX u W.heap.size (.slice none 0 0))) fun q hq hlt => ⟨hq, fun e => ?_⟩).grown (grownBy_of_below hal none) (fun r e => by cases e), fun q e => ?_⟩
  · rcases e with e | e | e
    · omega
    · cases e
    · have := (hu q e).1; omega
  · rw [World.size_alloc]
    rcases e with e | e | e
    · omega
    · cases e
    · have := (hu q e).2; omega
/-- The caller has written one of its own rows. -/
theorem JX.wrote {W0 : World} {P : JP} {X : Nat → Prop} {W W' : World} {v : Nat → Int} {of : Nat → List Nat} (h : JX W0 P X W v of) {g : Nat} (hg : X g) (hb : P.base ≤ g) (hk : BelowS (fun q => q = g) W.heap.size W W') : JSt W0 P W' v of := by
  have hlt := h.j.lt
  have hbs := h.j.bs
  have hkl := h.j.kok.lt
  have far : ∀ q, q < P.base → W'.heap[q]? = W.heap[q]? := fun q hq => hk.block q (by omega) (fun e => by omega)
  have hx2 := h.x.keep hk.size (far _ (by omega)) (far _ (by omega)) (far _ (by omega)) (fun q hq hlt => hk.block q hlt (fun e => hq.2 (e ▸ hg)))
  have hB := hlt P.B (.inl rfl)
  obtain ⟨F, p, rr⟩ := h.j.pool
  refine ⟨⟨F, p.block (fun k hk2 => far k ?_), rr⟩, hx2.less (fun q hq _ => hq.1), h.j.ap, hlt, Nat.le_trans hbs hk.size, ⟨hk.os.trans h.j.old.os, hk.tape.trans h.j.old.tape, hk.output.trans h.j.old.output, Nat.le_trans h.j.old.size hk.size, fun k hk2 => (far k (by omega)).trans (h.j.old.block k hk2)⟩, h.j.fz⟩
  rcases hk2 with e | e
  · subst e; exact hB.2
  · exact (hlt k (.inr (.inl e))).2
theorem ord_len {n m : Nat} {of : Nat → List Nat} {F : LkF} (h : Rep n m of F) {l : Nat} (hl : l < m) (back : Bool) : (ordL of l back).length ≤ n := by
  have h1 : (ordL of l back).length = (of l).length := by unfold ordL; cases back <;> simp
  rw [h1]
  have := List.Nodup.length_le_of_subset (h.nodup l hl) (l₂ := List.range n) (fun x hx => List.mem_range.2 (h.lt l hl x hx))
  simpa using this
theorem own_row {W : World} {b : Nat} {v : Value} {n : Nat} {f : Nat → Int} (h : W.ownsRow b 3 1 v n (IntC n f)) : (v = .slice none 0 0 ∧ n = 0) ∨ ∃ g c, v = .slice (some ⟨g, 0, none⟩) n c ∧ b ≤ g ∧ n ≤ c ∧ RowF W g n f := by
  rcases h.2 with h0 | ⟨g, c, cur, h1, hb, hg, hc, _, hs, ht⟩
  · exact .inl h0
  · refine .inr ⟨g, c, h1, hb, hc, cur, hg, by omega, fun j hj => ?_⟩
    have h2 : (cur.toList.take (n * 1))[j]? = (IntC n f)[j]? := by rw [ht]
    rw [List.getElem?_take_of_lt (by omega), Array.getElem?_toList, IntC_get hj] at h2
    exact h2
theorem own_sl' {W : World} {b : Nat} {v : Value} {n : Nat} {f : Nat → Int} (h : W.ownsRow b 3 1 v n (IntC n f)) : SlF W v n f := by
  rcases own_row h with ⟨rfl, rfl⟩ | ⟨g, c, rfl, _, _, hr⟩
  · exact ⟨none, 0, rfl, fun j hj => by omega⟩
  · exact hr.sl
/-- A row of which the first i places and the last i have changed over. -/
def revF (f : Nat → Int) (n i j : Nat) : Int := if j < i ∨ n - i ≤ j then f (n - 1 - j) else f j
theorem revF_step {f : Nat → Int} {n i : Nat} (hi : i + 1 < n - i) : ∀ j, j < n → updF (updF (revF f n i) i (revF f n i (n - 1 - i))) (n - 1 - i) (revF f n i i) j = revF f n (i + 1) j := by
  intro j hj
  have e1 : revF f n i (n - 1 - i) = f (n - 1 - i) := by unfold revF; rw [if_neg (by omega)]
  have e2 : revF f n i i = f i := by unfold revF; rw [if_neg (by omega)]
  rw [e1, e2]
  by_cases h1 : j = n - 1 - i
  · subst h1
    rw [updF_same]
    unfold revF
    rw [if_pos (by omega)]
    congr 1; omega
  · rw [updF_other h1]
    by_cases h2 : j = i
    · subst h2
      rw [updF_same]
      unfold revF
      rw [if_pos (by omega)]
    · rw [updF_other h2]
      unfold revF
      by_cases h3 : j < i ∨ n - i ≤ j
      · rw [if_pos h3, if_pos (by omega)]
      · rw [if_neg h3, if_neg (by omega)]
theorem revF_end {L : List Nat} {i : Nat} (hi : L.length ≤ i + i + 1) (hi2 : i ≤ L.length) : ∀ j, j < L.length → revF (natF L) L.length i j = natF L.reverse j := by
  intro j hj
  have h1 : natF L.reverse j = natF L (L.length - 1 - j) := by
    unfold natF
    rw [List.getD_eq_getElem?_getD, List.getD_eq_getElem?_getD, List.getElem?_reverse hj]
  rw [h1]
  unfold revF
  by_cases h3 : j < i ∨ L.length - i ≤ j
  · rw [if_pos h3]
  · rw [if_neg h3]
    congr 1; omega
/-- The law's temporaries when a round's body begins. -/
def inRoundA (a : Act) (v : Nat → Int) (x : Nat) : Act := { tmps := (((a.tmps.setIfInBounds 134 (.int .i64 (x : Int))).setIfInBounds 135 (.int .i64 (v x))).setIfInBounds 20 (.int .i64 (x : Int))).setIfInBounds 21 (.int .i64 (v x)), defers := [] }
theorem range_walk {F : Fence} {n : Nat} {P : Program} {w : World} {g : Operand} {assign body : Code} {Q : Exit → Act → World → Prop} {a : Act}
    (hro : F.round = none) (h1 : 1 ≤ n) {gf : Nat} {lb : Array Value} (hg : a.eval g = .func (.func gf) #[] lb) (hFg : F.fn gf) (eg : ∀ args w, (callFunc gf args).run P w = .ok (.enter gf args) w)
    {v : Nat → Int} {R : List Nat → World → Prop} {S Sp : List Nat → Prop} {N : List Nat → Nat → Prop} {w0 : World} (hseq : SeqR F (n - 1) P gf lb (slotV v) R S Sp N w0) (hb0 : Below w0.heap.size w0 w)
    (I : List Nat → World → Prop) (hI : OwnFrom w.heap.size I) (hIR : ∀ pre W, I pre W → R pre W) (h0 : I [] w)
    (hassign : ∀ (l : Nat) (x : Nat) (W : World) (K : Act → World → Prop), K (inRoundA a v x) W → assign.wpIn (F.inRound l) (n - 1 - 1) P (Exit.then K (fun _ _ _ => False)) { tmps := (a.tmps.setIfInBounds 134 (.int .i64 (x : Int))).setIfInBounds 135 (.int .i64 (v x)), defers := [] } W)
    (hbody : ∀ (l : Nat) (pre : List Nat) (x : Nat) (W : World), w.heap.size ≤ l → I pre W → N pre x → body.wpIn (F.inRound l) (n - 1 - 1) P (ownPostG w.heap.size (fun _ _ => True) I (fun _ _ _ => False) (pre ++ [x]) W) (inRoundA a v x) W)
    (hdone : ∀ (D : Nat) (xs : List Nat) (W : World), w.heap.size ≤ D → S xs → I xs W → W.heap[D]? = some (.deferred (some [])) → Q .normal { a with defers := { target := .collected D, args := #[] } :: a.defers } W) :
    (Code.rangeFunc g #[134, 135] assign body).wpIn F n P Q a w :=
  range_rel hro h1 hg hFg eg hseq hb0 (fun _ => rfl) I (fun _ _ _ => False) hI (fun _ _ _ _ _ hs _ _ => hs) hIR h0 (fun x a' _ => a' = inRoundA a v x) (fun _ _ _ _ _ _ h _ _ => h) (fun l _ x W K hi hK => by have := hassign l x W K (hK _ _ (KeepsFrom.refl _ _) hi rfl); simpa [slotV] using this)
    (fun l pre x a' W hl hi ha hn => by subst ha; exact hbody l pre x W hl hi hn) hdone (fun _ _ _ _ _ _ h _ => h.elim)
theorem ww_more {P : JP} {b D : Nat} {w W3 W4 : World} (hI : BelowS (WwS P b) D w W3) (hD : D ≤ w.heap.size) (h4 : BelowS P.T W3.heap.size W3 W4) : BelowS (WwS P b) D w W4 :=
  hI.trans ⟨h4.os, h4.tape, h4.output, h4.size, fun q hq hn => h4.block q (Nat.lt_of_lt_of_le (Nat.lt_of_lt_of_le hq hD) hI.size) (fun e => hn (.inl e))⟩
theorem puts_13 (A : Act) (t : Nat) (f : Nat → Value) : puts A t 13 f = ((((((((((((A.put (some (t + 0)) (f 0)).put (some (t + 1)) (f 1)).put (some (t + 2)) (f 2)).put (some (t + 3)) (f 3)).put (some (t + 4)) (f 4)).put (some (t + 5)) (f 5)).put (some (t + 6)) (f 6)).put (some (t + 7)) (f 7)).put (some (t + 8)) (f 8)).put (some (t + 9)) (f 9)).put (some (t + 10)) (f 10)).put (some (t + 11)) (f 11)).put (some (t + 12)) (f 12) := rfl
theorem keep_cell {W A : World} {p : Addr} {v : Value} (h : W.cell? p = some v) (hb : Below W.heap.size W A) : A.cell? p = some v := (hb.cell (World.block_lt_of_cell? _ _ h)).trans h
theorem keep_free {W A : World} {p : Addr} {v : Value} (h : W.cell? p = some v) (hf : W.frozen? p = false) (hb : Below W.heap.size W A) : A.frozen? p = false := (World.frozen?_of_block (hb.block p.block (World.block_lt_of_cell? _ _ h))).trans hf
theorem keep_set {W A : World} {p q : Nat} {v u : Value} (x : Value) (h : W.cell? ⟨p, 0, none⟩ = some v) (h2 : W.cell? ⟨q, 0, none⟩ = some u) (hne : v ≠ u) (hb : Below W.heap.size W A) : (A.setCell ⟨q, 0, none⟩ x).cell? ⟨p, 0, none⟩ = some v := by
  have e : p ≠ q := fun e => by
    subst e
    rw [h] at h2
    exact hne (Option.some.inj h2)
  exact (World.cell?_of_block (Below.heap_setCell _ _ _ _ e)).trans (keep_cell h hb)
theorem cell_set_same {W : World} {q : Nat} {u : Value} (x : Value) (h : W.cell? ⟨q, 0, none⟩ = some u) : (W.setCell ⟨q, 0, none⟩ x).cell? ⟨q, 0, none⟩ = some x := by
  unfold World.cell? at h
  cases ho : W.heap[q]? with
  | none => simp only [ho] at h; cases h
  | some o =>
    simp only [ho] at h
    cases o with
    | cells cur t fz =>
      have h0 : 0 < cur.size := by
        rcases Nat.eq_zero_or_pos cur.size with e | e
        · exfalso
          have : cur[0]? = none := Array.getElem?_eq_none (by omega)
          simp [this] at h
        · exact e
      have hl := (Array.getElem?_eq_some_iff.1 ho).1
      have he : W.heap[q] = .cells cur t fz := (Array.getElem?_eq_some_iff.1 ho).2
      have hs : (W.setCell ⟨q, 0, none⟩ x).heap[q]? = some (.cells (cur.setIfInBounds 0 x) t fz) := by
        show (W.heap.modify q _)[q]? = _
        rw [Array.getElem?_eq_getElem (by simpa using hl), Array.getElem_modify_self, he]
        rfl
      unfold World.cell?
      rw [hs]
      simp [h0]
    | _ => cases h
/-- The law's end: the result is stored, what was collected is taken. -/
theorem walk_end {W wx zu : World} {R D' : Nat} {u : Value} (hx : wx.cell? ⟨R, 0, none⟩ = some u) (hb : Below wx.heap.size wx zu) (hM : wx.heap[D']? = some (.deferred (some []))) (hW : Below W.heap.size W wx) (hR : W.heap.size ≤ R) (hD : W.heap.size ≤ D') :
    (zu.setCell ⟨R, 0, none⟩ (.bool true)).heap[D']? = some (.deferred (some [])) ∧ ((zu.setCell ⟨R, 0, none⟩ (.bool true)).putObj D' (.deferred none)).cell? ⟨R, 0, none⟩ = some (.bool true) ∧ Below W.heap.size W ((zu.setCell ⟨R, 0, none⟩ (.bool true)).putObj D' (.deferred none)) := by
  have hne : D' ≠ R := fun e => by
    subst e
    unfold World.cell? at hx
    rw [hM] at hx
    cases hx
  have h1 : (zu.setCell ⟨R, 0, none⟩ (.bool true)).heap[D']? = some (.deferred (some [])) := (Below.heap_setCell _ _ _ _ hne).trans ((hb.block D' (Array.getElem?_eq_some_iff.1 hM).1).trans hM)
  refine ⟨h1, (World.cell?_of_block (World.putObj_heap_other (fun e => hne e.symm))).trans (cell_set_same _ (keep_cell hx hb)), ?_⟩
  have h2 := (hW.trans (hb.mono hW.size)).setCell (p := ⟨R, 0, none⟩) hR (.bool true)
  exact h2.trans ((Below.refl _ _).grown (grownBy_putObj' _ D' _) h2.size (fun k e => by cases e; exact hD))
theorem puts_14 (A : Act) (t : Nat) (f : Nat → Value) : puts A t 14 f = (((((((((((((A.put (some (t + 0)) (f 0)).put (some (t + 1)) (f 1)).put (some (t + 2)) (f 2)).put (some (t + 3)) (f 3)).put (some (t + 4)) (f 4)).put (some (t + 5)) (f 5)).put (some (t + 6)) (f 6)).put (some (t + 7)) (f 7)).put (some (t + 8)) (f 8)).put (some (t + 9)) (f 9)).put (some (t + 10)) (f 10)).put (some (t + 11)) (f 11)).put (some (t + 12)) (f 12)).put (some (t + 13)) (f 13) := rfl
/-- A row that is gone through only where it holds something. -/
def RowO (b : Nat) (W : World) (p : Option Addr) (n : Nat) (f : Nat → Int) : Prop := n = 0 ∨ ∃ g, p = some ⟨g, 0, none⟩ ∧ b ≤ g ∧ RowF W g n f
theorem own_rowO {W : World} {b : Nat} {p : Option Addr} {c n : Nat} {f : Nat → Int} (h : W.ownsRow b 3 1 (.slice p n c) n (IntC n f)) : RowO b W p n f := by
  rcases own_row h with ⟨_, h0⟩ | ⟨g, c', e, hg, _, hr⟩
  · exact .inl h0
  · injection e with e1 e2 e3
    subst e1
    exact .inr ⟨g, rfl, hg, hr⟩
theorem RowO.sl {b : Nat} {W : World} {p : Option Addr} {c n : Nat} {f : Nat → Int} (h : RowO b W p n f) : SlF W (.slice p n c) n f := by
  rcases h with rfl | ⟨g, rfl, _, hr⟩
  · exact ⟨p, c, rfl, fun j hj => by omega⟩
  · exact hr.sl
/-- Between two rounds of the loop that turns the row over. -/
def RevI (b : Nat) (W0 : World) (p : Option Addr) (c n : Nat) (f : Nat → Int) (i : Nat) (W : World) : Prop := BelowS (fun q => (Value.slice p n c).ownBlock = some q) W0.heap.size W0 W ∧ RowO b W p n (revF f n i)
theorem RevI.start {b : Nat} {W : World} {p : Option Addr} {c n : Nat} {f : Nat → Int} (h : RowO b W p n f) : RevI b W p c n f 0 W := by
  refine ⟨BelowS.refl _ _ _, ?_⟩
  rcases h with h | ⟨g, rfl, hb, hr⟩
  · exact .inl h
  · refine .inr ⟨g, rfl, hb, ?_⟩
    obtain ⟨cur, h1, h2, h3⟩ := hr
    exact ⟨cur, h1, h2, fun j hj => by rw [h3 j hj]; unfold revF; rw [if_neg (by omega)]⟩
theorem RevI.step {b : Nat} {W0 W : World} {p : Option Addr} {c n i k : Nat} {f : Nat → Int} (h : RevI b W0 p c n f i W) (hk : k = n - 1 - i) (hi : i + 1 < n - i) : ∃ g, p = some ⟨g, 0, none⟩ ∧ b ≤ g ∧ ∃ x y, W.cell? ⟨g, i, none⟩ = some (.int .i64 x) ∧ W.frozen? ⟨g, i, none⟩ = false ∧ W.cell? ⟨g, k, none⟩ = some (.int .i64 y) ∧ W.frozen? ⟨g, k, none⟩ = false ∧
    (∀ A, A.heap = ((W.setCell ⟨g, i, none⟩ (.int .i64 y)).setCell ⟨g, k, none⟩ (.int .i64 x)).heap → A.os = W.os → A.tape = W.tape → A.output = W.output → RevI b W0 p c n f (i + 1) A) := by
  obtain ⟨hs, hr⟩ := h
  rcases hr with h0 | ⟨g, rfl, hb, hr⟩
  · omega
  · obtain ⟨x1, x2⟩ := hr.get (j := i) (by omega)
    obtain ⟨y1, y2⟩ := hr.get (j := k) (by omega)
    refine ⟨g, rfl, hb, _, _, x1, x2, y1, y2, fun A hA h1 h2 h3 => ⟨hs.trans ⟨h1, h2, h3, by rw [hA]; simp [World.setCell], fun q hq hn => ?_⟩, .inr ⟨g, rfl, hb, ?_⟩⟩⟩
    · have e : q ≠ g := fun e => hn (by subst e; rfl)
      rw [hA, Below.heap_setCell _ _ _ _ e, Below.heap_setCell _ _ _ _ e]
    · have hr2 := (hr.set (j := i) (by omega) (revF f n i k)).set (j := k) (by omega) (revF f n i i)
      have hr3 : RowF A g n (updF (updF (revF f n i) i (revF f n i k)) k (revF f n i i)) := hr2.block (by rw [hA])
      obtain ⟨cur, c1, c2, c3⟩ := hr3
      subst hk
      exact ⟨cur, c1, c2, fun j hj => by rw [c3 j hj, revF_step hi j hj]⟩
theorem keep_cellS {W A : World} {S : Nat → Prop} {p : Addr} {v : Value} (h : W.cell? p = some v) (hb : BelowS S W.heap.size W A) (hn : ¬ S p.block) : A.cell? p = some v :=
  (World.cell?_of_block (hb.block p.block (World.block_lt_of_cell? _ _ h) hn)).trans h
theorem keep_freeS {W A : World} {S : Nat → Prop} {p : Addr} {v : Value} (h : W.cell? p = some v) (hf : W.frozen? p = false) (hb : BelowS S W.heap.size W A) (hn : ¬ S p.block) : A.frozen? p = false :=
  (World.frozen?_of_block (hb.block p.block (World.block_lt_of_cell? _ _ h) hn)).trans hf
theorem slF_keepS {W A : World} {S : Nat → Prop} {u : Value} {n : Nat} {f : Nat → Int} (h : SlF W u n f) (hb : BelowS S W.heap.size W A) (hn : ∀ q, u.ownBlock = some q → ¬ S q) : SlF A u n f := by
  obtain ⟨p, c, rfl, hx⟩ := h
  refine ⟨p, c, rfl, fun j hj => ?_⟩
  obtain ⟨g, rfl, hg, hc⟩ := hx j hj
  exact ⟨g, rfl, Nat.lt_of_lt_of_le hg hb.size, keep_cellS hc hb (hn g rfl)⟩
theorem RevI.jst {W1 : World} {P : JP} {b b19 : Nat} {W0 W : World} {p : Option Addr} {c n i : Nat} {f : Nat → Int} {r : Value} {v : Nat → Int} {of : Nat → List Nat} (h : RevI b W0 p c n f i W) (hj : JX W1 P (OwnX (.slice p n c) b19 r) W0 v of) (hlt : ∀ q, (Value.slice p n c).ownBlock = some q → P.base ≤ q) : JSt W1 P W v of := by
  cases p with
  | none => exact hj.j.below ⟨h.1.os, h.1.tape, h.1.output, h.1.size, fun k hk => h.1.block k hk (fun e => by cases e)⟩
  | some a => exact hj.wrote (g := a.block) (.inr (.inr rfl)) (hlt _ rfl) ⟨h.1.os, h.1.tape, h.1.output, h.1.size, fun k hk hn => h.1.block k hk (fun e => hn (by cases e; rfl))⟩
theorem set_other_cell {W : World} {g i k : Nat} {v u : Value} (h : W.cell? ⟨g, k, none⟩ = some v) (hne : k ≠ i) : (W.setCell ⟨g, i, none⟩ u).cell? ⟨g, k, none⟩ = some v := by
  unfold World.cell? at h
  cases ho : W.heap[g]? with
  | none => simp only [ho] at h; cases h
  | some o =>
    simp only [ho] at h
    cases o with
    | cells cur t fz =>
      have hl := (Array.getElem?_eq_some_iff.1 ho).1
      have he : W.heap[g] = .cells cur t fz := (Array.getElem?_eq_some_iff.1 ho).2
      have hs : (W.setCell ⟨g, i, none⟩ u).heap[g]? = some (.cells (cur.setIfInBounds i u) t fz) := by
        show (W.heap.modify g _)[g]? = _
        rw [Array.getElem?_eq_getElem (by simpa using hl), Array.getElem_modify_self, he]
        rfl
      unfold World.cell?
      rw [hs]
      simp at h
      simp [Array.getElem?_setIfInBounds, Ne.symm hne, h]
    | _ => cases h
theorem set_frozen {W : World} {g i k : Nat} {v u : Value} (h : W.cell? ⟨g, k, none⟩ = some v) (hf : W.frozen? ⟨g, k, none⟩ = false) : (W.setCell ⟨g, i, none⟩ u).frozen? ⟨g, k, none⟩ = false := by
  unfold World.cell? at h
  unfold World.frozen? at hf ⊢
  cases ho : W.heap[g]? with
  | none => simp only [ho] at h; cases h
  | some o =>
    simp only [ho] at h hf
    cases o with
    | cells cur t fz =>
      have hl := (Array.getElem?_eq_some_iff.1 ho).1
      have he : W.heap[g] = .cells cur t fz := (Array.getElem?_eq_some_iff.1 ho).2
      have hs : (W.setCell ⟨g, i, none⟩ u).heap[g]? = some (.cells (cur.setIfInBounds i u) t fz) := by
        show (W.heap.modify g _)[g]? = _
        rw [Array.getElem?_eq_getElem (by simpa using hl), Array.getElem_modify_self, he]
        rfl
      rw [hs]
      exact hf
    | _ => cases h
end Go.Proofs.Ytmelcohfjonjfaa
