/- links: the law's drawn region with two calls of Move, within a round of a range over a function. -/
import Derived.Test.YtmelcohfjonjfaaLwOwn
import Derived.Test.YtmelcohfjonjfaaLsRow
namespace Go.Proofs.Ytmelcohfjonjfaa
open Go.RowKit Go.Shelf

def regIn (id : Nat) : Code → Array Oper
  | .region i ops _ => if i = id then ops else #[]
  | .seq a b => if (regIn id a).size = 0 then regIn id b else regIn id a
  | .cond _ a b => if (regIn id a).size = 0 then regIn id b else regIn id a
  | .block _ a => regIn id a
  | .loop a => regIn id a
  | .rangeFunc _ _ a b => if (regIn id a).size = 0 then regIn id b else regIn id a
  | _ => #[]
section
variable {F : Fence} {n : Nat} {P : Program} {ops : Array Oper} {Q : Exit → Act → World → Prop}
theorem wpAnyIn_inv {md : Region.Mode} {J : Array Bool → Act → World → Prop} (hstep : ∀ l a w i, l.size = ops.size → J l a w → i ∈ Region.ready md ops l → wpOpIn F n P ops Q i (J (l.setIfInBounds i true)) a w) (ha : Ahead ops = true)
    (hend : ∀ l a w, J l a w → (∀ i, i < ops.size → l.getD i false = true) → Q .normal a w) : ∀ (fuel : Nat) (l : Array Bool) (a : Act) (w : World), l.size = ops.size → l.toList.count false ≤ fuel → J l a w → wpAnyIn F n P md ops Q fuel l a w := by
  have hq : ∀ l a w, l.size = ops.size → J l a w → Region.ready md ops l = [] → Q .normal a w := fun l a w hs hJ hr => hend l a w hJ (fun i hi => Ahead.all ha hr ops.size i hi hi (by omega))
  intro fuel
  induction fuel with
  | zero =>
    intro l a w hs hc hJ
    have hr : Region.ready md ops l = [] := by
      rw [List.eq_nil_iff_forall_not_mem]
      intro i hi
      obtain ⟨hlt, h0⟩ := ready_lt hi
      have : 0 < l.toList.count false := List.count_pos_iff.2 (by rw [← h0]; exact Array.getElem_mem_toList ..)
      omega
    exact ⟨hr, hq l a w hs hJ hr⟩
  | succ fuel ih =>
    intro l a w hs hc hJ
    refine ⟨fun hr => hq l a w hs hJ hr, fun i hi => ?_⟩
    refine wpOpIn_mono (fun a' w' h => ih _ a' w' (by simpa using hs) ?_ h) (hstep l a w i hs hJ hi)
    obtain ⟨hlt, h0⟩ := ready_lt hi
    have hpos : 0 < l.toList.count false := List.count_pos_iff.2 (by rw [← h0]; exact Array.getElem_mem_toList ..)
    rw [Array.toList_setIfInBounds, List.count_set (by simpa using hlt)]
    simp only [Array.getElem_toList, h0]
    rw [if_pos (by decide), if_neg (by decide)]
    omega
theorem wpIn_region_inv {id : Nat} {a : Act} {w : World} (hm : P.follows .mixedOrders = true) {J : Array Bool → Act → World → Prop}
    (h0 : J (Array.replicate ops.size false) a w.drew)
    (hstep : ∀ l a w i, l.size = ops.size → J l a w → i ∈ Region.ready .any ops l → wpOpIn F n P ops Q i (J (l.setIfInBounds i true)) a w) (ha : Ahead ops = true)
    (hend : ∀ l a w, J l a w → (∀ i, i < ops.size → l.getD i false = true) → Q .normal a w) : (Code.region id ops true).wpIn F n P Q a w :=
  wpIn_region_any hm (wpAnyIn_inv hstep ha hend ops.size _ a _ (by simp) (by simp) h0)
variable {ly : Nat}
theorem op_val {i : Nat} {o : Oper} {a : Act} {w : World} {v : Value} {K : Act → World → Prop} (ho : ops[i]? = some o) (hg : o.guard = none) (hd : ∀ c, o.op ≠ .defer c) (h : (execOp a.eval o).run P w = .ok (.value v) w) (hK : K (a.put o.dst v) w) : wpOpIn (Fence.wide.inRound ly) n P ops Q i K a w := by
  unfold wpOpIn
  have hw : Region.wanted o (yielded ops a.tmps) = true := by simp [Region.wanted, hg]
  simp only [ho, hw, if_true]
  refine ⟨fun _ _ => trivial, ?_⟩
  rw [Oper.semAt_eq _ _ _ hd, h]
  exact hK
theorem op_call {i : Nat} {o : Oper} {a : Act} {w : World} {f : FuncId} {args : Array Value} {K : Act → World → Prop} {R : Ending → World → Prop} (ho : ops[i]? = some o) (hg : o.guard = none) (hd : ∀ c, o.op ≠ .defer c) (h : (execOp a.eval o).run P w = .ok (.enter f args) w) (hC : Calls P f args w R)
    (hK : ∀ e W, R e W → ∃ v, e = .returned v ∧ K (a.put o.dst v) W) : wpOpIn (Fence.wide.inRound ly) n P ops Q i K a w := by
  unfold wpOpIn
  have hw : Region.wanted o (yielded ops a.tmps) = true := by simp [Region.wanted, hg]
  simp only [ho, hw, if_true]
  refine ⟨fun _ _ => trivial, ?_⟩
  rw [Oper.semAt_eq _ _ _ hd, h]
  refine ⟨fun h => (by cases h), CallsIn.inRound ly ((callsIn_wide.2 hC).mono ?_)⟩
  intro e W hR
  obtain ⟨v, rfl, hk⟩ := hK e W hR
  exact hk
end
/-- What the region's temporaries hold. -/
def mvVal (B C : Nat) (x to : Int) (back : Bool) : Nat → Value
  | 0 => .pointer (some ⟨B, 0, none⟩)
  | 1 => .int .i64 x
  | 2 => .int .i64 to
  | 3 => .bool back
  | 4 => .bool (!back)
  | 5 => .int .i64 0
  | 6 => .pointer (some ⟨C, 0, none⟩)
  | 7 => .int .i64 x
  | 8 => .int .i64 to
  | 9 => .bool back
  | 10 => .bool (!back)
  | 11 => .int .i64 0
  | _ => .bool false
structure MvA (A : Act) (val : Nat → Value) (l : Array Bool) (a : Act) : Prop where
  df : a.defers = A.defers
  sz : a.tmps.size = A.tmps.size
  old : ∀ j, ¬ (181 ≤ j ∧ j < 194) → a.tmps[j]? = A.tmps[j]?
  new : ∀ i, i < 13 → l.getD i false = true → a.tmps[181 + i]? = some (val i)
theorem MvA.put {A : Act} {val : Nat → Value} {l : Array Bool} {a : Act} {ops : Array Oper} {i : Nat} (h : MvA A val l a) (hA : 194 ≤ A.tmps.size) (hi : i < 13) (hr : i ∈ Region.ready .any ops l) : MvA A val (l.setIfInBounds i true) (a.put (some (181 + i)) (val i)) := by
  refine ⟨h.df, ?_, fun j hj => ?_, fun k hk hl => ?_⟩
  · show (a.tmps.setIfInBounds _ _).size = _
    rw [Array.size_setIfInBounds]; exact h.sz
  · show (a.tmps.setIfInBounds _ _)[j]? = _
    rw [Array.getElem?_setIfInBounds, if_neg (by omega)]; exact h.old j hj
  · show (a.tmps.setIfInBounds _ _)[181 + k]? = _
    rw [Array.getElem?_setIfInBounds]
    by_cases e : k = i
    · subst e; rw [if_pos rfl, if_pos (by have := h.sz; omega)]
    · rw [if_neg (by omega)]
      exact h.new k hk (((lst_set hr).1 hl).resolve_left e)
theorem MvA.end {A : Act} {val : Nat → Value} {l : Array Bool} {a : Act} (h : MvA A val l a) (hA : 194 ≤ A.tmps.size) (hl : ∀ i, i < 13 → l.getD i false = true) : a = puts A 181 13 val := by
  obtain ⟨t, d⟩ := a
  have hp := puts_size A 181 13 val
  have h1 : t = (puts A 181 13 val).tmps := by
    apply Array.ext_getElem?
    intro j
    rw [puts_at]
    by_cases hj : 181 ≤ j ∧ j < 194
    · rw [if_pos ⟨hj.1, by omega, by omega⟩]
      have := h.new (j - 181) (by omega) (hl _ (by omega))
      rw [show 181 + (j - 181) = j by omega] at this
      exact this
    · rw [if_neg (by omega)]; exact h.old j hj
  have h2 : d = (puts A 181 13 val).defers := h.df.trans hp.2.symm
  rw [h1, h2]
theorem MvA.at_ {A : Act} {val : Nat → Value} {l : Array Bool} {a : Act} (h : MvA A val l a) {i : Nat} (hi : i < 13) (hl : l.getD i false = true) : a.eval (.tmp (181 + i)) = val i := by
  show a.tmps.getD (181 + i) undef = _
  rw [Array.getD_eq_getD_getElem?, h.new i hi hl]; rfl
theorem MvA.was {A : Act} {val : Nat → Value} {l : Array Bool} {a : Act} (h : MvA A val l a) {j : Nat} (hj : ¬ (181 ≤ j ∧ j < 194)) : a.eval (.tmp j) = A.eval (.tmp j) := by
  show a.tmps.getD j undef = A.tmps.getD j undef
  rw [Array.getD_eq_getD_getElem?, Array.getD_eq_getD_getElem?, h.old j hj]
def MvW (Zf : World → Prop) (P : JP) (w : World) (v : Nat → Int) (of' : Nat → List Nat) (c5 c11 : Bool) (W : World) : Prop :=
  if c11 = true then Zf W ∧ BelowS P.T w.heap.size w W else if c5 = true then Mid P w v of' W else W = w
theorem MvW.bel {Zf : World → Prop} {P : JP} {w : World} {v : Nat → Int} {of' : Nat → List Nat} {c5 c11 : Bool} {W : World} (h : MvW Zf P w v of' c5 c11 W) : BelowS P.T w.heap.size w W := by
  unfold MvW at h
  by_cases h1 : c11 = true
  · rw [if_pos h1] at h; exact h.2
  · rw [if_neg h1] at h
    by_cases h2 : c5 = true
    · rw [if_pos h2] at h; exact belowT1 h.2
    · rw [if_neg h2] at h; subst h; exact BelowS.refl _ _ _
theorem getD_set_other {l : Array Bool} {i j : Nat} (h : j ≠ i) : (l.setIfInBounds i true).getD j false = l.getD j false := by
  rw [Array.getD_eq_getD_getElem?, Array.getD_eq_getD_getElem?, Array.getElem?_setIfInBounds, if_neg (fun e => h e.symm)]
theorem getD_set_self {l : Array Bool} {i : Nat} {ops : Array Oper} (hr : i ∈ Region.ready .any ops l) : (l.setIfInBounds i true).getD i false = true := (lst_set hr).2 (.inl rfl)
set_option maxHeartbeats 4000000 in
set_option maxRecDepth 100000 in
theorem move_region {Zf : World → Prop} {P : JP} {w : World} {v : Nat → Int} {of' : Nat → List Nat} {A : Act} {ly n b7 b8 b16 b17 : Nat} {x to : Int} {back : Bool} {Q : Exit → Act → World → Prop} (hA : A.tmps.size = 237)
    (e7 : A.eval (.tmp 7) = .pointer (some ⟨b7, 0, none⟩)) (e8 : A.eval (.tmp 8) = .pointer (some ⟨b8, 0, none⟩)) (e16 : A.eval (.tmp 16) = .pointer (some ⟨b16, 0, none⟩)) (e17 : A.eval (.tmp 17) = .pointer (some ⟨b17, 0, none⟩)) (e20 : A.eval (.tmp 20) = .int .i64 x)
    (hcell : ∀ V, BelowS P.T w.drew.heap.size w.drew V → V.cell? ⟨b7, 0, none⟩ = some (.pointer (some ⟨P.B, 0, none⟩)) ∧ V.cell? ⟨b8, 0, none⟩ = some (.pointer (some ⟨P.C, 0, none⟩)) ∧ V.cell? ⟨b16, 0, none⟩ = some (.int .i64 to) ∧ V.cell? ⟨b17, 0, none⟩ = some (.bool back))
    (C1 : Calls Try.prog 31 #[.pointer (some ⟨P.B, 0, none⟩), .int .i64 x, .int .i64 to, .bool (!back)] w.drew (fun e W1 => e = .returned (.int .i64 0) ∧ Mid P w.drew v of' W1))
    (C2 : ∀ W1, Mid P w.drew v of' W1 → Calls Try.prog 32 #[.pointer (some ⟨P.C, 0, none⟩), .int .i64 x, .int .i64 to, .bool (!back)] W1 (fun e W2 => e = .returned (.int .i64 0) ∧ Zf W2 ∧ BelowS P.T w.drew.heap.size w.drew W2))
    (hQ : ∀ W2, Zf W2 → BelowS P.T w.drew.heap.size w.drew W2 → Q .normal (puts A 181 13 (mvVal P.B P.C x to back)) W2) :
    (Code.region 40 (regIn 40 (Try.f5.body.getD .skip)) true).wpIn (Fence.wide.inRound ly) n Try.prog Q A w := by
  obtain ⟨ops, hops⟩ : ∃ ops, ops = regIn 40 (Try.f5.body.getD .skip) := ⟨_, rfl⟩
  rw [← hops]
  have hsz : ops.size = 13 := by rw [hops]; kernel_rfl
  refine wpIn_region_inv (J := fun l a W => MvA A (mvVal P.B P.C x to back) l a ∧ MvW Zf P w.drew v of' (l.getD 5 false) (l.getD 11 false) W ∧ (l.getD 11 false = true → l.getD 5 false = true)) (by kernel_rfl) ⟨⟨rfl, rfl, fun _ _ => rfl, fun i hi hl => ?_⟩, ?_, ?_⟩ ?_ (by rw [hops]; kernel_rfl) ?_
  · rw [hsz] at hl
    exfalso
    rw [Array.getD_eq_getD_getElem?, Array.getElem?_replicate] at hl
    split at hl <;> cases hl
  · rw [hsz]
    exact rfl
  · rw [hsz]
    intro h; exact absurd h (by decide)
  · rintro l a W i hs ⟨ha, hw, H115⟩ hr
    obtain ⟨hi, _⟩ := ready_lt hr
    have hi : i < 13 := by omega
    obtain ⟨c7, c8, c16, c17⟩ := hcell W hw.bel
    have PUT : ∀ j, j = i → MvA A (mvVal P.B P.C x to back) (l.setIfInBounds i true) (a.put (some (181 + j)) (mvVal P.B P.C x to back j)) := fun j e => by subst e; exact ha.put (by omega) hi hr
    have SAME : i ≠ 5 → i ≠ 11 → MvW Zf P w.drew v of' ((l.setIfInBounds i true).getD 5 false) ((l.setIfInBounds i true).getD 11 false) W ∧ ((l.setIfInBounds i true).getD 11 false = true → (l.setIfInBounds i true).getD 5 false = true) := fun h1 h2 => by
      rw [getD_set_other (fun e => h1 e.symm), getD_set_other (fun e => h2 e.symm)]; exact ⟨hw, H115⟩
    have v7 := (ha.was (j := 7) (by omega)).trans e7
    have v8 := (ha.was (j := 8) (by omega)).trans e8
    have v16 := (ha.was (j := 16) (by omega)).trans e16
    have v17 := (ha.was (j := 17) (by omega)).trans e17
    have v20 := (ha.was (j := 20) (by omega)).trans e20
    match i, hi with
    | 0, _ =>
      obtain ⟨o, ho, hg, hd, hop⟩ : ∃ o, ops[0]? = some o ∧ o.guard = none ∧ o.dst = some 181 ∧ o.op = .load 24 (.tmp 7) := by rw [hops]; refine ⟨_, by rfl, ?_, ?_, ?_⟩ <;> rfl
      refine op_val ho hg (by rw [hop]; intro c h; cases h) (v := mvVal P.B P.C x to back 0) (by unfold execOp; rw [hop]; simp only [v7]; go_simp; try rfl) ?_
      rw [hd]
      exact ⟨PUT 0 rfl, SAME (by decide) (by decide)⟩
    | 1, _ =>
      obtain ⟨o, ho, hg, hd, hop⟩ : ∃ o, ops[1]? = some o ∧ o.guard = none ∧ o.dst = some 182 ∧ o.op = .move (.tmp 20) := by rw [hops]; refine ⟨_, by rfl, ?_, ?_, ?_⟩ <;> rfl
      refine op_val ho hg (by rw [hop]; intro c h; cases h) (v := mvVal P.B P.C x to back 1) (by unfold execOp; rw [hop]; simp only [v20]; go_simp; try rfl) ?_
      rw [hd]
      exact ⟨PUT 1 rfl, SAME (by decide) (by decide)⟩
    | 2, _ =>
      obtain ⟨o, ho, hg, hd, hop⟩ : ∃ o, ops[2]? = some o ∧ o.guard = none ∧ o.dst = some 183 ∧ o.op = .load 3 (.tmp 16) := by rw [hops]; refine ⟨_, by rfl, ?_, ?_, ?_⟩ <;> rfl
      refine op_val ho hg (by rw [hop]; intro c h; cases h) (v := mvVal P.B P.C x to back 2) (by unfold execOp; rw [hop]; simp only [v16]; go_simp; try rfl) ?_
      rw [hd]
      exact ⟨PUT 2 rfl, SAME (by decide) (by decide)⟩
    | 3, _ =>
      obtain ⟨o, ho, hg, hd, hop⟩ : ∃ o, ops[3]? = some o ∧ o.guard = none ∧ o.dst = some 184 ∧ o.op = .load 4 (.tmp 17) := by rw [hops]; refine ⟨_, by rfl, ?_, ?_, ?_⟩ <;> rfl
      refine op_val ho hg (by rw [hop]; intro c h; cases h) (v := mvVal P.B P.C x to back 3) (by unfold execOp; rw [hop]; simp only [v17]; go_simp; try rfl) ?_
      rw [hd]
      exact ⟨PUT 3 rfl, SAME (by decide) (by decide)⟩
    | 4, _ =>
      obtain ⟨o, ho, hg, hd, hop⟩ : ∃ o, ops[4]? = some o ∧ o.guard = none ∧ o.dst = some 185 ∧ o.op = .unOp .not 4 (.tmp 184) := by rw [hops]; refine ⟨_, by rfl, ?_, ?_, ?_⟩ <;> rfl
      have d3 := ha.at_ (i := 3) (by decide) (lst_waits hr (by rw [hops]; kernel_rfl))
      refine op_val ho hg (by rw [hop]; intro c h; cases h) (v := mvVal P.B P.C x to back 4) (by unfold execOp; rw [hop]; simp only [show a.eval (.tmp 184) = .bool back from d3]; go_simp; try rfl) ?_
      rw [hd]
      exact ⟨PUT 4 rfl, SAME (by decide) (by decide)⟩
    | 5, _ =>
      obtain ⟨o, ho, hg, hd, hop⟩ : ∃ o, ops[5]? = some o ∧ o.guard = none ∧ o.dst = some 186 ∧ ∃ ts, o.op = .call { callee := .value (.func 31), args := #[.tmp 181, .tmp 182, .tmp 183, .tmp 185], argTypes := ts } := by rw [hops]; exact ⟨_, by rfl, by rfl, by rfl, ⟨_, by rfl⟩⟩
      obtain ⟨ts, hop⟩ := hop
      have n0 : a.tmps[181]? = some (.pointer (some ⟨P.B, 0, none⟩)) := ha.new 0 (by decide) (lst_waits hr (by rw [hops]; kernel_rfl))
      have n1 : a.tmps[182]? = some (.int .i64 x) := ha.new 1 (by decide) (lst_waits hr (by rw [hops]; kernel_rfl))
      have n2 : a.tmps[183]? = some (.int .i64 to) := ha.new 2 (by decide) (lst_waits hr (by rw [hops]; kernel_rfl))
      have n4 : a.tmps[185]? = some (.bool (!back)) := ha.new 4 (by decide) (lst_waits hr (by rw [hops]; kernel_rfl))
      refine op_call ho hg (by rw [hop]; intro c h; cases h) (f := 31) (args := #[.pointer (some ⟨P.B, 0, none⟩), .int .i64 x, .int .i64 to, .bool (!back)]) (by unfold execOp; rw [hop]; go_simp) (by
        have h5 := lst_not hr
        have h11 : ¬ l.getD 11 false = true := fun e => h5 (H115 e)
        unfold MvW at hw
        rw [if_neg h11, if_neg h5] at hw
        rw [hw]
        exact C1) ?_
      rintro e W1 ⟨rfl, hm⟩
      refine ⟨_, rfl, ?_⟩
      rw [hd]
      refine ⟨PUT 5 rfl, ?_, fun _ => getD_set_self hr⟩
      have h5 := lst_not hr
      have h11 : ¬ l.getD 11 false = true := fun e => h5 (H115 e)
      unfold MvW
      rw [getD_set_other (by decide), if_neg h11, getD_set_self hr, if_pos rfl]
      exact hm
    | 6, _ =>
      obtain ⟨o, ho, hg, hd, hop⟩ : ∃ o, ops[6]? = some o ∧ o.guard = none ∧ o.dst = some 187 ∧ o.op = .load 43 (.tmp 8) := by rw [hops]; refine ⟨_, by rfl, ?_, ?_, ?_⟩ <;> rfl
      refine op_val ho hg (by rw [hop]; intro c h; cases h) (v := mvVal P.B P.C x to back 6) (by unfold execOp; rw [hop]; simp only [v8]; go_simp; try rfl) ?_
      rw [hd]
      exact ⟨PUT 6 rfl, SAME (by decide) (by decide)⟩
    | 7, _ =>
      obtain ⟨o, ho, hg, hd, hop⟩ : ∃ o, ops[7]? = some o ∧ o.guard = none ∧ o.dst = some 188 ∧ o.op = .move (.tmp 20) := by rw [hops]; refine ⟨_, by rfl, ?_, ?_, ?_⟩ <;> rfl
      refine op_val ho hg (by rw [hop]; intro c h; cases h) (v := mvVal P.B P.C x to back 7) (by unfold execOp; rw [hop]; simp only [v20]; go_simp; try rfl) ?_
      rw [hd]
      exact ⟨PUT 7 rfl, SAME (by decide) (by decide)⟩
    | 8, _ =>
      obtain ⟨o, ho, hg, hd, hop⟩ : ∃ o, ops[8]? = some o ∧ o.guard = none ∧ o.dst = some 189 ∧ o.op = .load 3 (.tmp 16) := by rw [hops]; refine ⟨_, by rfl, ?_, ?_, ?_⟩ <;> rfl
      refine op_val ho hg (by rw [hop]; intro c h; cases h) (v := mvVal P.B P.C x to back 8) (by unfold execOp; rw [hop]; simp only [v16]; go_simp; try rfl) ?_
      rw [hd]
      exact ⟨PUT 8 rfl, SAME (by decide) (by decide)⟩
    | 9, _ =>
      obtain ⟨o, ho, hg, hd, hop⟩ : ∃ o, ops[9]? = some o ∧ o.guard = none ∧ o.dst = some 190 ∧ o.op = .load 4 (.tmp 17) := by rw [hops]; refine ⟨_, by rfl, ?_, ?_, ?_⟩ <;> rfl
      refine op_val ho hg (by rw [hop]; intro c h; cases h) (v := mvVal P.B P.C x to back 9) (by unfold execOp; rw [hop]; simp only [v17]; go_simp; try rfl) ?_
      rw [hd]
      exact ⟨PUT 9 rfl, SAME (by decide) (by decide)⟩
    | 10, _ =>
      obtain ⟨o, ho, hg, hd, hop⟩ : ∃ o, ops[10]? = some o ∧ o.guard = none ∧ o.dst = some 191 ∧ o.op = .unOp .not 4 (.tmp 190) := by rw [hops]; refine ⟨_, by rfl, ?_, ?_, ?_⟩ <;> rfl
      have d9 := ha.at_ (i := 9) (by decide) (lst_waits hr (by rw [hops]; kernel_rfl))
      refine op_val ho hg (by rw [hop]; intro c h; cases h) (v := mvVal P.B P.C x to back 10) (by unfold execOp; rw [hop]; simp only [show a.eval (.tmp 190) = .bool back from d9]; go_simp; try rfl) ?_
      rw [hd]
      exact ⟨PUT 10 rfl, SAME (by decide) (by decide)⟩
    | 11, _ =>
      obtain ⟨o, ho, hg, hd, hop⟩ : ∃ o, ops[11]? = some o ∧ o.guard = none ∧ o.dst = some 192 ∧ ∃ ts, o.op = .call { callee := .value (.func 32), args := #[.tmp 187, .tmp 188, .tmp 189, .tmp 191], argTypes := ts } := by rw [hops]; exact ⟨_, by rfl, by rfl, by rfl, ⟨_, by rfl⟩⟩
      obtain ⟨ts, hop⟩ := hop
      have n6 : a.tmps[187]? = some (.pointer (some ⟨P.C, 0, none⟩)) := ha.new 6 (by decide) (lst_waits hr (by rw [hops]; kernel_rfl))
      have n7 : a.tmps[188]? = some (.int .i64 x) := ha.new 7 (by decide) (lst_waits hr (by rw [hops]; kernel_rfl))
      have n8 : a.tmps[189]? = some (.int .i64 to) := ha.new 8 (by decide) (lst_waits hr (by rw [hops]; kernel_rfl))
      have n10 : a.tmps[191]? = some (.bool (!back)) := ha.new 10 (by decide) (lst_waits hr (by rw [hops]; kernel_rfl))
      refine op_call ho hg (by rw [hop]; intro c h; cases h) (f := 32) (args := #[.pointer (some ⟨P.C, 0, none⟩), .int .i64 x, .int .i64 to, .bool (!back)]) (by unfold execOp; rw [hop]; go_simp) (C2 W (by
        have h11 := lst_not hr
        have h5 := lst_waits hr (show Region.waitsFor .any ops 11 5 = true by rw [hops]; kernel_rfl)
        unfold MvW at hw
        rw [if_neg h11, if_pos h5] at hw
        exact hw)) ?_
      rintro e W1 ⟨rfl, hm⟩
      refine ⟨_, rfl, ?_⟩
      rw [hd]
      refine ⟨PUT 11 rfl, ?_, fun _ => by rw [getD_set_other (by decide)]; exact lst_waits hr (show Region.waitsFor .any ops 11 5 = true by rw [hops]; kernel_rfl)⟩
      unfold MvW
      rw [getD_set_self hr, if_pos rfl]
      exact hm
    | 12, _ =>
      obtain ⟨o, ho, hg, hd, hop⟩ : ∃ o, ops[12]? = some o ∧ o.guard = none ∧ o.dst = some 193 ∧ o.op = .binOp .neq 25 (.tmp 186) (.tmp 192) 25 := by rw [hops]; refine ⟨_, by rfl, ?_, ?_, ?_⟩ <;> rfl
      have d5 := ha.at_ (i := 5) (by decide) (lst_waits hr (by rw [hops]; kernel_rfl))
      have d11 := ha.at_ (i := 11) (by decide) (lst_waits hr (by rw [hops]; kernel_rfl))
      refine op_val ho hg (by rw [hop]; intro c h; cases h) (v := mvVal P.B P.C x to back 12) (by unfold execOp; rw [hop]; simp only [show a.eval (.tmp 186) = .int .i64 0 from d5, show a.eval (.tmp 192) = .int .i64 0 from d11]; go_simp; try rfl) ?_
      rw [hd]
      exact ⟨PUT 12 rfl, SAME (by decide) (by decide)⟩
  · rintro l a W ⟨ha, hw, _⟩ hl
    rw [ha.end (by omega) (fun i hi => hl i (by omega))]
    unfold MvW at hw
    rw [if_pos (hl 11 (by omega))] at hw
    exact hQ W hw.1 hw.2
end Go.Proofs.Ytmelcohfjonjfaa
