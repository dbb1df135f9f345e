/- links: the law's drawn region that changes two places over. -/
import Derived.Test.YtmelcohfjonjfaaLwApart
namespace Go.Proofs.Ytmelcohfjonjfaa
open Go.RowKit Go.Shelf

section
variable {n : Nat} {P : Program} {ops : Array Oper} {Q : Exit → Act → World → Prop}
theorem opw_val {i : Nat} {o : Oper} {a : Act} {w : World} {v : Value} {K : Act → World → Prop} (ho : ops[i]? = some o) (hg : o.guard = none) (hd : ∀ c, o.op ≠ .defer c) (h : (execOp a.eval o).run P w = .ok (.value v) w) (hK : K (a.put o.dst v) w) : wpOpIn Fence.wide n P ops Q i K a w := by
  unfold wpOpIn
  have hw : Region.wanted o (yielded ops a.tmps) = true := by simp [Region.wanted, hg]
  simp only [ho, hw, if_true]
  refine ⟨fun _ _ => trivial, ?_⟩
  rw [Oper.semAt_eq _ _ _ hd, h]
  exact hK
theorem opw_store {i : Nat} {o : Oper} {a : Act} {w w' : World} {K : Act → World → Prop} (ho : ops[i]? = some o) (hg : o.guard = none) (hdst : o.dst = none) (hd : ∀ c, o.op ≠ .defer c) (h : (execOp a.eval o).run P w = .ok .skip w') (hK : K a w') : wpOpIn Fence.wide n P ops Q i K a w := by
  unfold wpOpIn
  have hw : Region.wanted o (yielded ops a.tmps) = true := by simp [Region.wanted, hg]
  simp only [ho, hw, if_true]
  refine ⟨fun _ _ => trivial, ?_⟩
  rw [Oper.semAt_eq _ _ _ hd, h]
  show K (a.put o.dst undef) w'
  rw [hdst]
  exact hK
/-- Each operation waits for such as stand ahead of it, of the edges that bind. -/
def AheadB (ops : Array Oper) : Bool := (List.range ops.size).all fun i => match ops[i]? with | some o => o.after.all (fun e => !Region.binds .any e || decide (e.on < i)) | none => true
theorem AheadB.all {l : Array Bool} (ha : AheadB ops = true) (hr : Region.ready .any ops l = []) : ∀ n i, i < n → i < ops.size → i < l.size → l.getD i false = true := by
  intro n
  induction n with
  | zero => intro i hi; cases hi
  | succ n ih =>
    intro i hi hs hl
    by_cases hf : l.getD i true = false
    · exfalso
      have : i ∈ Region.ready .any ops l := by
        refine mem_ready.2 ⟨hf, ops[i], Array.getElem?_eq_getElem hs, fun e he hb => ?_⟩
        have h1 := List.all_eq_true.1 ha i (List.mem_range.2 hs)
        rw [Array.getElem?_eq_getElem hs] at h1
        have h2 := Array.all_eq_true_iff_forall_mem.1 h1 e he
        have h3 : e.on < i := by simpa [hb] using h2
        exact ih e.on (by omega) (by omega) (by omega)
      rw [hr] at this
      cases this
    · simpa [hl] using hf
variable {F : Fence}
theorem wpAnyIn_invB {J : Array Bool → Act → World → Prop} (hstep : ∀ l a w i, l.size = ops.size → J l a w → i ∈ Region.ready .any ops l → wpOpIn F n P ops Q i (J (l.setIfInBounds i true)) a w) (ha : AheadB ops = true)
    (hend : ∀ l a w, J l a w → (∀ i, i < ops.size → l.getD i false = true) → Q .normal a w) : ∀ (fuel : Nat) (l : Array Bool) (a : Act) (w : World), l.size = ops.size → l.toList.count false ≤ fuel → J l a w → wpAnyIn F n P .any ops Q fuel l a w := by
  have hq : ∀ l a w, l.size = ops.size → J l a w → Region.ready .any ops l = [] → Q .normal a w := fun l a w hs hJ hr => hend l a w hJ (fun i hi => AheadB.all ha hr ops.size i hi hi (by omega))
  intro fuel
  induction fuel with
  | zero =>
    intro l a w hs hc hJ
    have hr : Region.ready .any ops l = [] := by
      rw [List.eq_nil_iff_forall_not_mem]
      intro i hi
      obtain ⟨hlt, h0⟩ := ready_lt hi
      have : 0 < l.toList.count false := List.count_pos_iff.2 (by rw [← h0]; exact Array.getElem_mem_toList ..)
      omega
    exact ⟨hr, hq l a w hs hJ hr⟩
  | succ fuel ih =>
    intro l a w hs hc hJ
    refine ⟨fun hr => hq l a w hs hJ hr, fun i hi => ?_⟩
    refine wpOpIn_mono (fun a' w' h => ih _ a' w' (by simpa using hs) ?_ h) (hstep l a w i hs hJ hi)
    obtain ⟨hlt, h0⟩ := ready_lt hi
    have hpos : 0 < l.toList.count false := List.count_pos_iff.2 (by rw [← h0]; exact Array.getElem_mem_toList ..)
    rw [Array.toList_setIfInBounds, List.count_set (by simpa using hlt)]
    simp only [Array.getElem_toList, h0]
    rw [if_pos (by decide), if_neg (by decide)]
    omega
theorem wpIn_region_invB {id : Nat} {a : Act} {w : World} (hm : P.follows .mixedOrders = true) {J : Array Bool → Act → World → Prop}
    (h0 : J (Array.replicate ops.size false) a w.drew)
    (hstep : ∀ l a w i, l.size = ops.size → J l a w → i ∈ Region.ready .any ops l → wpOpIn F n P ops Q i (J (l.setIfInBounds i true)) a w) (ha : AheadB ops = true)
    (hend : ∀ l a w, J l a w → (∀ i, i < ops.size → l.getD i false = true) → Q .normal a w) : (Code.region id ops true).wpIn F n P Q a w :=
  wpIn_region_any hm (wpAnyIn_invB hstep ha hend ops.size _ a _ (by simp) (by simp) h0)
end
/-- The slot of an operation. -/
def swS (i : Nat) : Nat := if i < 13 then i else 13
def swVal (s : Value) (g i k : Nat) (x y : Int) : Nat → Value
  | 0 => s
  | 1 => .int .i64 (i : Int)
  | 2 => s
  | 3 => .int .i64 (k : Int)
  | 4 => s
  | 5 => .int .i64 (k : Int)
  | 6 => .pointer (some ⟨g, k, none⟩)
  | 7 => .int .i64 y
  | 8 => s
  | 9 => .int .i64 (i : Int)
  | 10 => .pointer (some ⟨g, i, none⟩)
  | 11 => .int .i64 x
  | 12 => .pointer (some ⟨g, i, none⟩)
  | _ => .pointer (some ⟨g, k, none⟩)
structure SwA (A : Act) (val : Nat → Value) (l : Array Bool) (a : Act) : Prop where
  df : a.defers = A.defers
  sz : a.tmps.size = A.tmps.size
  old : ∀ j, ¬ (205 ≤ j ∧ j < 219) → a.tmps[j]? = A.tmps[j]?
  new : ∀ i, i < 15 → i ≠ 13 → l.getD i false = true → a.tmps[205 + swS i]? = some (val (swS i))
theorem SwA.put {A : Act} {val : Nat → Value} {l : Array Bool} {a : Act} {ops : Array Oper} {i : Nat} (h : SwA A val l a) (hA : 219 ≤ A.tmps.size) (hi : i < 15) (hi3 : i ≠ 13) (hr : i ∈ Region.ready .any ops l) : SwA A val (l.setIfInBounds i true) (a.put (some (205 + swS i)) (val (swS i))) := by
  have hs : ∀ q, swS q ≤ 13 := fun q => by unfold swS; split <;> omega
  refine ⟨h.df, ?_, fun j hj => ?_, fun k hk hk3 hl => ?_⟩
  · show (a.tmps.setIfInBounds _ _).size = _
    rw [Array.size_setIfInBounds]; exact h.sz
  · show (a.tmps.setIfInBounds _ _)[j]? = _
    rw [Array.getElem?_setIfInBounds, if_neg (by have := hs i; omega)]; exact h.old j hj
  · show (a.tmps.setIfInBounds _ _)[205 + swS k]? = _
    rw [Array.getElem?_setIfInBounds]
    by_cases e : k = i
    · subst e; rw [if_pos rfl, if_pos (by have := h.sz; have := hs k; omega)]
    · rw [if_neg (by unfold swS; split <;> split <;> omega)]
      exact h.new k hk hk3 (((lst_set hr).1 hl).resolve_left e)
theorem SwA.keep {A : Act} {val : Nat → Value} {l : Array Bool} {a : Act} {ops : Array Oper} {i : Nat} (h : SwA A val l a) (hi : i = 13 ∨ i = 15) (hr : i ∈ Region.ready .any ops l) : SwA A val (l.setIfInBounds i true) a :=
  ⟨h.df, h.sz, h.old, fun k hk hk3 hl => h.new k hk hk3 (((lst_set hr).1 hl).resolve_left (by omega))⟩
theorem SwA.end {A : Act} {val : Nat → Value} {l : Array Bool} {a : Act} (h : SwA A val l a) (hA : 219 ≤ A.tmps.size) (hl : ∀ i, i < 16 → l.getD i false = true) : a = puts A 205 14 val := by
  obtain ⟨t, d⟩ := a
  have hp := puts_size A 205 14 val
  have h1 : t = (puts A 205 14 val).tmps := by
    apply Array.ext_getElem?
    intro j
    rw [puts_at]
    by_cases hj : 205 ≤ j ∧ j < 219
    · rw [if_pos ⟨hj.1, by omega, by omega⟩]
      by_cases h3 : j - 205 < 13
      · have := h.new (j - 205) (by omega) (by omega) (hl _ (by omega))
        unfold swS at this
        rw [if_pos h3, show 205 + (j - 205) = j by omega] at this
        exact this
      · have := h.new 14 (by omega) (by omega) (hl _ (by omega))
        have e : j = 218 := by omega
        subst e
        exact this
    · rw [if_neg (by omega)]; exact h.old j hj
  have h2 : d = (puts A 205 14 val).defers := h.df.trans hp.2.symm
  rw [h1, h2]
theorem SwA.at_ {A : Act} {val : Nat → Value} {l : Array Bool} {a : Act} (h : SwA A val l a) {i : Nat} (hi : i < 15) (hi3 : i ≠ 13) (hl : l.getD i false = true) : a.eval (.tmp (205 + swS i)) = val (swS i) := by
  show a.tmps.getD (205 + swS i) undef = _
  rw [Array.getD_eq_getD_getElem?, h.new i hi hi3 hl]; rfl
theorem SwA.was {A : Act} {val : Nat → Value} {l : Array Bool} {a : Act} (h : SwA A val l a) {j : Nat} (hj : ¬ (205 ≤ j ∧ j < 219)) : a.eval (.tmp j) = A.eval (.tmp j) := by
  show a.tmps.getD j undef = A.tmps.getD j undef
  rw [Array.getD_eq_getD_getElem?, Array.getD_eq_getD_getElem?, h.old j hj]
def SwW (w : World) (g i k : Nat) (x y : Int) (c13 c15 : Bool) (W : World) : Prop :=
  if c15 = true then W = (w.setCell ⟨g, i, none⟩ (.int .i64 y)).setCell ⟨g, k, none⟩ (.int .i64 x) else if c13 = true then W = w.setCell ⟨g, i, none⟩ (.int .i64 y) else W = w
set_option maxHeartbeats 4000000 in
set_option maxRecDepth 100000 in
theorem swap_region {w : World} {A : Act} {n g i k N c : Nat} {x y : Int} {Q : Exit → Act → World → Prop} (hA : A.tmps.size = 237) (hiN : i < N) (hkN : k < N) (hik : k ≠ i)
    (e18 : A.eval (.tmp 18) = .slice (some ⟨g, 0, none⟩) N c) (e26 : A.eval (.tmp 26) = .int .i64 (i : Int)) (e27 : A.eval (.tmp 27) = .int .i64 (k : Int))
    (x1 : w.cell? ⟨g, i, none⟩ = some (.int .i64 x)) (x2 : w.frozen? ⟨g, i, none⟩ = false) (y1 : w.cell? ⟨g, k, none⟩ = some (.int .i64 y)) (y2 : w.frozen? ⟨g, k, none⟩ = false)
    (hQ : Q .normal (puts A 205 14 (swVal (.slice (some ⟨g, 0, none⟩) N c) g i k x y)) ((w.drew.setCell ⟨g, i, none⟩ (.int .i64 y)).setCell ⟨g, k, none⟩ (.int .i64 x))) :
    (Code.region 46 (regIn 46 (Try.f5.body.getD .skip)) true).wpIn Fence.wide n Try.prog Q A w := by
  obtain ⟨ops, hops⟩ : ∃ ops, ops = regIn 46 (Try.f5.body.getD .skip) := ⟨_, rfl⟩
  rw [← hops]
  have hsz : ops.size = 16 := by rw [hops]; kernel_rfl
  have x1' : w.drew.cell? ⟨g, i, none⟩ = some (.int .i64 x) := x1
  have x2' : w.drew.frozen? ⟨g, i, none⟩ = false := x2
  have y1' : w.drew.cell? ⟨g, k, none⟩ = some (.int .i64 y) := y1
  have s1 := set_other_cell (u := .int .i64 y) (i := i) y1' hik
  have s2 : (w.drew.setCell ⟨g, i, none⟩ (.int .i64 y)).frozen? ⟨g, k, none⟩ = false := set_frozen y1' y2
  have j0 : (0 : Int) ≤ i := by omega
  have j1 : (i : Int) < N := by omega
  have j2 : (0 : Int) ≤ k := by omega
  have j3 : (k : Int) < N := by omega
  clear hiN hkN
  refine wpIn_region_invB (J := fun l a W => SwA A (swVal (.slice (some ⟨g, 0, none⟩) N c) g i k x y) l a ∧ SwW w.drew g i k x y (l.getD 13 false) (l.getD 15 false) W ∧ (l.getD 13 false = true → l.getD 7 false = true ∧ l.getD 11 false = true) ∧ (l.getD 15 false = true → l.getD 13 false = true)) (by kernel_rfl) ⟨⟨rfl, rfl, fun _ _ => rfl, fun i hi _ hl => ?_⟩, ?_, ?_, ?_⟩ ?_ (by rw [hops]; kernel_rfl) ?_
  · rw [hsz] at hl
    exfalso
    rw [Array.getD_eq_getD_getElem?, Array.getElem?_replicate] at hl
    split at hl <;> cases hl
  · rw [hsz]; exact rfl
  · rw [hsz]; intro h; exact absurd h (by decide)
  · rw [hsz]; intro h; exact absurd h (by decide)
  · rintro l a W q hs ⟨ha, hw, H1, H2⟩ hr
    obtain ⟨hq, _⟩ := ready_lt hr
    have hq : q < 16 := by omega
    have PUT : q ≠ 13 → q ≠ 15 → SwA A (swVal (.slice (some ⟨g, 0, none⟩) N c) g i k x y) (l.setIfInBounds q true) (a.put (some (205 + swS q)) (swVal (.slice (some ⟨g, 0, none⟩) N c) g i k x y (swS q))) := fun h1 h2 => ha.put (by omega) (by omega) h1 hr
    have SAME : q ≠ 13 → q ≠ 15 → SwW w.drew g i k x y ((l.setIfInBounds q true).getD 13 false) ((l.setIfInBounds q true).getD 15 false) W ∧ ((l.setIfInBounds q true).getD 13 false = true → (l.setIfInBounds q true).getD 7 false = true ∧ (l.setIfInBounds q true).getD 11 false = true) ∧ ((l.setIfInBounds q true).getD 15 false = true → (l.setIfInBounds q true).getD 13 false = true) := fun h1 h2 => by
      rw [getD_set_other (fun e => h1 e.symm), getD_set_other (fun e => h2 e.symm)]
      exact ⟨hw, fun h => ⟨(lst_set hr).2 (.inr (H1 h).1), (lst_set hr).2 (.inr (H1 h).2)⟩, H2⟩
    have v18 := (ha.was (j := 18) (by omega)).trans e18
    have v26 := (ha.was (j := 26) (by omega)).trans e26
    have v27 := (ha.was (j := 27) (by omega)).trans e27
    match q, hq with
    | 0, _ =>
      obtain ⟨o, ho, hg, hd, hop⟩ : ∃ o, ops[0]? = some o ∧ o.guard = none ∧ o.dst = some 205 ∧ o.op = .move (.tmp 18) := by rw [hops]; refine ⟨_, by rfl, ?_, ?_, ?_⟩ <;> rfl
      refine opw_val ho hg (by rw [hop]; intro c h; cases h) (v := swVal (.slice (some ⟨g, 0, none⟩) N c) g i k x y 0) (by unfold execOp; rw [hop]; simp only [v18]; go_simp; try rfl) ?_
      rw [hd]
      exact ⟨PUT (by decide) (by decide), SAME (by decide) (by decide)⟩
    | 1, _ =>
      obtain ⟨o, ho, hg, hd, hop⟩ : ∃ o, ops[1]? = some o ∧ o.guard = none ∧ o.dst = some 206 ∧ o.op = .move (.tmp 26) := by rw [hops]; refine ⟨_, by rfl, ?_, ?_, ?_⟩ <;> rfl
      refine opw_val ho hg (by rw [hop]; intro c h; cases h) (v := swVal (.slice (some ⟨g, 0, none⟩) N c) g i k x y 1) (by unfold execOp; rw [hop]; simp only [v26]; go_simp; try rfl) ?_
      rw [hd]
      exact ⟨PUT (by decide) (by decide), SAME (by decide) (by decide)⟩
    | 2, _ =>
      obtain ⟨o, ho, hg, hd, hop⟩ : ∃ o, ops[2]? = some o ∧ o.guard = none ∧ o.dst = some 207 ∧ o.op = .move (.tmp 18) := by rw [hops]; refine ⟨_, by rfl, ?_, ?_, ?_⟩ <;> rfl
      refine opw_val ho hg (by rw [hop]; intro c h; cases h) (v := swVal (.slice (some ⟨g, 0, none⟩) N c) g i k x y 2) (by unfold execOp; rw [hop]; simp only [v18]; go_simp; try rfl) ?_
      rw [hd]
      exact ⟨PUT (by decide) (by decide), SAME (by decide) (by decide)⟩
    | 3, _ =>
      obtain ⟨o, ho, hg, hd, hop⟩ : ∃ o, ops[3]? = some o ∧ o.guard = none ∧ o.dst = some 208 ∧ o.op = .move (.tmp 27) := by rw [hops]; refine ⟨_, by rfl, ?_, ?_, ?_⟩ <;> rfl
      refine opw_val ho hg (by rw [hop]; intro c h; cases h) (v := swVal (.slice (some ⟨g, 0, none⟩) N c) g i k x y 3) (by unfold execOp; rw [hop]; simp only [v27]; go_simp; try rfl) ?_
      rw [hd]
      exact ⟨PUT (by decide) (by decide), SAME (by decide) (by decide)⟩
    | 4, _ =>
      obtain ⟨o, ho, hg, hd, hop⟩ : ∃ o, ops[4]? = some o ∧ o.guard = none ∧ o.dst = some 209 ∧ o.op = .move (.tmp 18) := by rw [hops]; refine ⟨_, by rfl, ?_, ?_, ?_⟩ <;> rfl
      refine opw_val ho hg (by rw [hop]; intro c h; cases h) (v := swVal (.slice (some ⟨g, 0, none⟩) N c) g i k x y 4) (by unfold execOp; rw [hop]; simp only [v18]; go_simp; try rfl) ?_
      rw [hd]
      exact ⟨PUT (by decide) (by decide), SAME (by decide) (by decide)⟩
    | 5, _ =>
      obtain ⟨o, ho, hg, hd, hop⟩ : ∃ o, ops[5]? = some o ∧ o.guard = none ∧ o.dst = some 210 ∧ o.op = .move (.tmp 27) := by rw [hops]; refine ⟨_, by rfl, ?_, ?_, ?_⟩ <;> rfl
      refine opw_val ho hg (by rw [hop]; intro c h; cases h) (v := swVal (.slice (some ⟨g, 0, none⟩) N c) g i k x y 5) (by unfold execOp; rw [hop]; simp only [v27]; go_simp; try rfl) ?_
      rw [hd]
      exact ⟨PUT (by decide) (by decide), SAME (by decide) (by decide)⟩
    | 6, _ =>
      obtain ⟨o, ho, hg, hd, hop⟩ : ∃ o, ops[6]? = some o ∧ o.guard = none ∧ o.dst = some 211 ∧ o.op = .indexAddr 29 (.tmp 209) (.tmp 210) := by rw [hops]; refine ⟨_, by rfl, ?_, ?_, ?_⟩ <;> rfl
      have d0 : a.eval (.tmp 209) = .slice (some ⟨g, 0, none⟩) N c := ha.at_ (i := 4) (by decide) (by decide) (lst_waits hr (show Region.waitsFor .any ops 6 4 = true by rw [hops]; kernel_rfl))
      have d1 : a.eval (.tmp 210) = .int .i64 (k : Int) := ha.at_ (i := 5) (by decide) (by decide) (lst_waits hr (show Region.waitsFor .any ops 6 5 = true by rw [hops]; kernel_rfl))
      refine opw_val ho hg (by rw [hop]; intro c h; cases h) (v := swVal (.slice (some ⟨g, 0, none⟩) N c) g i k x y 6) (by unfold execOp; rw [hop]; simp only [d0, d1]; go_simp; try rfl) ?_
      rw [hd]
      exact ⟨PUT (by decide) (by decide), SAME (by decide) (by decide)⟩
    | 7, _ =>
      obtain ⟨o, ho, hg, hd, hop⟩ : ∃ o, ops[7]? = some o ∧ o.guard = none ∧ o.dst = some 212 ∧ o.op = .load 3 (.tmp 211) := by rw [hops]; refine ⟨_, by rfl, ?_, ?_, ?_⟩ <;> rfl
      have d0 : a.eval (.tmp 211) = .pointer (some ⟨g, k, none⟩) := ha.at_ (i := 6) (by decide) (by decide) (lst_waits hr (show Region.waitsFor .any ops 7 6 = true by rw [hops]; kernel_rfl))
      have hn : ¬ l.getD 7 false = true := lst_not hr
      have h13 : ¬ l.getD 13 false = true := fun e => hn (H1 e).1
      have h15 : ¬ l.getD 15 false = true := fun e => h13 (H2 e)
      have hw0 := hw
      unfold SwW at hw0
      rw [if_neg h15, if_neg h13] at hw0
      subst hw0
      refine opw_val ho hg (by rw [hop]; intro c h; cases h) (v := swVal (.slice (some ⟨g, 0, none⟩) N c) g i k x y 7) (by unfold execOp; rw [hop]; simp only [d0]; go_simp; try rfl) ?_
      rw [hd]
      exact ⟨PUT (by decide) (by decide), SAME (by decide) (by decide)⟩
    | 8, _ =>
      obtain ⟨o, ho, hg, hd, hop⟩ : ∃ o, ops[8]? = some o ∧ o.guard = none ∧ o.dst = some 213 ∧ o.op = .move (.tmp 18) := by rw [hops]; refine ⟨_, by rfl, ?_, ?_, ?_⟩ <;> rfl
      refine opw_val ho hg (by rw [hop]; intro c h; cases h) (v := swVal (.slice (some ⟨g, 0, none⟩) N c) g i k x y 8) (by unfold execOp; rw [hop]; simp only [v18]; go_simp; try rfl) ?_
      rw [hd]
      exact ⟨PUT (by decide) (by decide), SAME (by decide) (by decide)⟩
    | 9, _ =>
      obtain ⟨o, ho, hg, hd, hop⟩ : ∃ o, ops[9]? = some o ∧ o.guard = none ∧ o.dst = some 214 ∧ o.op = .move (.tmp 26) := by rw [hops]; refine ⟨_, by rfl, ?_, ?_, ?_⟩ <;> rfl
      refine opw_val ho hg (by rw [hop]; intro c h; cases h) (v := swVal (.slice (some ⟨g, 0, none⟩) N c) g i k x y 9) (by unfold execOp; rw [hop]; simp only [v26]; go_simp; try rfl) ?_
      rw [hd]
      exact ⟨PUT (by decide) (by decide), SAME (by decide) (by decide)⟩
    | 10, _ =>
      obtain ⟨o, ho, hg, hd, hop⟩ : ∃ o, ops[10]? = some o ∧ o.guard = none ∧ o.dst = some 215 ∧ o.op = .indexAddr 29 (.tmp 213) (.tmp 214) := by rw [hops]; refine ⟨_, by rfl, ?_, ?_, ?_⟩ <;> rfl
      have d0 : a.eval (.tmp 213) = .slice (some ⟨g, 0, none⟩) N c := ha.at_ (i := 8) (by decide) (by decide) (lst_waits hr (show Region.waitsFor .any ops 10 8 = true by rw [hops]; kernel_rfl))
      have d1 : a.eval (.tmp 214) = .int .i64 (i : Int) := ha.at_ (i := 9) (by decide) (by decide) (lst_waits hr (show Region.waitsFor .any ops 10 9 = true by rw [hops]; kernel_rfl))
      refine opw_val ho hg (by rw [hop]; intro c h; cases h) (v := swVal (.slice (some ⟨g, 0, none⟩) N c) g i k x y 10) (by unfold execOp; rw [hop]; simp only [d0, d1]; go_simp; try rfl) ?_
      rw [hd]
      exact ⟨PUT (by decide) (by decide), SAME (by decide) (by decide)⟩
    | 11, _ =>
      obtain ⟨o, ho, hg, hd, hop⟩ : ∃ o, ops[11]? = some o ∧ o.guard = none ∧ o.dst = some 216 ∧ o.op = .load 3 (.tmp 215) := by rw [hops]; refine ⟨_, by rfl, ?_, ?_, ?_⟩ <;> rfl
      have d0 : a.eval (.tmp 215) = .pointer (some ⟨g, i, none⟩) := ha.at_ (i := 10) (by decide) (by decide) (lst_waits hr (show Region.waitsFor .any ops 11 10 = true by rw [hops]; kernel_rfl))
      have hn : ¬ l.getD 11 false = true := lst_not hr
      have h13 : ¬ l.getD 13 false = true := fun e => hn (H1 e).2
      have h15 : ¬ l.getD 15 false = true := fun e => h13 (H2 e)
      have hw0 := hw
      unfold SwW at hw0
      rw [if_neg h15, if_neg h13] at hw0
      subst hw0
      refine opw_val ho hg (by rw [hop]; intro c h; cases h) (v := swVal (.slice (some ⟨g, 0, none⟩) N c) g i k x y 11) (by unfold execOp; rw [hop]; simp only [d0]; go_simp; try rfl) ?_
      rw [hd]
      exact ⟨PUT (by decide) (by decide), SAME (by decide) (by decide)⟩
    | 12, _ =>
      obtain ⟨o, ho, hg, hd, hop⟩ : ∃ o, ops[12]? = some o ∧ o.guard = none ∧ o.dst = some 217 ∧ o.op = .indexAddr 29 (.tmp 205) (.tmp 206) := by rw [hops]; refine ⟨_, by rfl, ?_, ?_, ?_⟩ <;> rfl
      have d0 : a.eval (.tmp 205) = .slice (some ⟨g, 0, none⟩) N c := ha.at_ (i := 0) (by decide) (by decide) (lst_waits hr (show Region.waitsFor .any ops 12 0 = true by rw [hops]; kernel_rfl))
      have d1 : a.eval (.tmp 206) = .int .i64 (i : Int) := ha.at_ (i := 1) (by decide) (by decide) (lst_waits hr (show Region.waitsFor .any ops 12 1 = true by rw [hops]; kernel_rfl))
      refine opw_val ho hg (by rw [hop]; intro c h; cases h) (v := swVal (.slice (some ⟨g, 0, none⟩) N c) g i k x y 12) (by unfold execOp; rw [hop]; simp only [d0, d1]; go_simp; try rfl) ?_
      rw [hd]
      exact ⟨PUT (by decide) (by decide), SAME (by decide) (by decide)⟩
    | 13, _ =>
      obtain ⟨o, ho, hg, hd, hop⟩ : ∃ o, ops[13]? = some o ∧ o.guard = none ∧ o.dst = none ∧ o.op = .store 3 (.tmp 217) (.tmp 212) := by rw [hops]; refine ⟨_, by rfl, ?_, ?_, ?_⟩ <;> rfl
      have d0 : a.eval (.tmp 217) = .pointer (some ⟨g, i, none⟩) := ha.at_ (i := 12) (by decide) (by decide) (lst_waits hr (show Region.waitsFor .any ops 13 12 = true by rw [hops]; kernel_rfl))
      have d1 : a.eval (.tmp 212) = .int .i64 y := ha.at_ (i := 7) (by decide) (by decide) (lst_waits hr (show Region.waitsFor .any ops 13 7 = true by rw [hops]; kernel_rfl))
      have h13 := lst_not hr
      have h15 : ¬ l.getD 15 false = true := fun e => h13 (H2 e)
      have hw0 := hw
      unfold SwW at hw0
      rw [if_neg h15, if_neg h13] at hw0
      subst hw0
      refine opw_store ho hg hd (by rw [hop]; intro c h; cases h) (w' := w.drew.setCell ⟨g, i, none⟩ (.int .i64 y)) (by unfold execOp; rw [hop]; simp only [d0, d1]; go_simp; try rfl) ?_
      refine ⟨ha.keep (.inl rfl) hr, ?_, fun _ => ⟨(lst_set hr).2 (.inr (lst_waits hr (show Region.waitsFor .any ops 13 7 = true by rw [hops]; kernel_rfl))), (lst_set hr).2 (.inr (lst_waits hr (show Region.waitsFor .any ops 13 11 = true by rw [hops]; kernel_rfl)))⟩, fun _ => getD_set_self hr⟩
      unfold SwW
      rw [getD_set_other (by decide), if_neg h15, getD_set_self hr, if_pos rfl]
    | 14, _ =>
      obtain ⟨o, ho, hg, hd, hop⟩ : ∃ o, ops[14]? = some o ∧ o.guard = none ∧ o.dst = some 218 ∧ o.op = .indexAddr 29 (.tmp 207) (.tmp 208) := by rw [hops]; refine ⟨_, by rfl, ?_, ?_, ?_⟩ <;> rfl
      have d0 : a.eval (.tmp 207) = .slice (some ⟨g, 0, none⟩) N c := ha.at_ (i := 2) (by decide) (by decide) (lst_waits hr (show Region.waitsFor .any ops 14 2 = true by rw [hops]; kernel_rfl))
      have d1 : a.eval (.tmp 208) = .int .i64 (k : Int) := ha.at_ (i := 3) (by decide) (by decide) (lst_waits hr (show Region.waitsFor .any ops 14 3 = true by rw [hops]; kernel_rfl))
      refine opw_val ho hg (by rw [hop]; intro c h; cases h) (v := swVal (.slice (some ⟨g, 0, none⟩) N c) g i k x y 13) (by unfold execOp; rw [hop]; simp only [d0, d1]; go_simp; try rfl) ?_
      rw [hd]
      exact ⟨PUT (by decide) (by decide), SAME (by decide) (by decide)⟩
    | 15, _ =>
      obtain ⟨o, ho, hg, hd, hop⟩ : ∃ o, ops[15]? = some o ∧ o.guard = none ∧ o.dst = none ∧ o.op = .store 3 (.tmp 218) (.tmp 216) := by rw [hops]; refine ⟨_, by rfl, ?_, ?_, ?_⟩ <;> rfl
      have d0 : a.eval (.tmp 218) = .pointer (some ⟨g, k, none⟩) := ha.at_ (i := 14) (by decide) (by decide) (lst_waits hr (show Region.waitsFor .any ops 15 14 = true by rw [hops]; kernel_rfl))
      have d1 : a.eval (.tmp 216) = .int .i64 x := ha.at_ (i := 11) (by decide) (by decide) (lst_waits hr (show Region.waitsFor .any ops 15 11 = true by rw [hops]; kernel_rfl))
      have h15 := lst_not hr
      have h13 := lst_waits hr (show Region.waitsFor .any ops 15 13 = true by rw [hops]; kernel_rfl)
      have hw0 := hw
      unfold SwW at hw0
      rw [if_neg h15, if_pos h13] at hw0
      subst hw0
      refine opw_store ho hg hd (by rw [hop]; intro c h; cases h) (w' := (w.drew.setCell ⟨g, i, none⟩ (.int .i64 y)).setCell ⟨g, k, none⟩ (.int .i64 x)) (by unfold execOp; rw [hop]; simp only [d0, d1]; go_simp; try rfl) ?_
      refine ⟨ha.keep (.inr rfl) hr, ?_, fun _ => ?_, fun _ => ?_⟩
      · unfold SwW
        rw [getD_set_self hr, if_pos rfl]
      · exact ⟨(lst_set hr).2 (.inr (H1 h13).1), (lst_set hr).2 (.inr (H1 h13).2)⟩
      · exact (lst_set hr).2 (.inr h13)
    | m + 16, hq => exact absurd hq (by omega)
  · rintro l a W ⟨ha, hw, _⟩ hl
    rw [ha.end (by omega) (fun i hi => hl i (by omega))]
    unfold SwW at hw
    rw [if_pos (hl 15 (by omega))] at hw
    subst hw
    exact hQ
end Go.Proofs.Ytmelcohfjonjfaa
