/- The law's own pieces: what a sequence goes through. -/
import Derived.Test.YtnhbilcpdombfaaSpPieces
import Derived.Maps.OwnIn
namespace Go.Proofs.Ytnhbilcpdombfaa
open Go.RowKit Go.Shelf
attribute [local go_sem] Oper.semAt_some

/-- What a loop that appends to the variable in block B writes: the variable, and its slice's row. -/
def rowR (B : Nat) (W : World) (k : Nat) : Prop := k = B ∨ ∃ v, W.cell? ⟨B, 0, none⟩ = some v ∧ v.ownBlock = some k
theorem rowR_stab {B D : Nat} (h : B < D) : Stab (rowR B) D := ⟨fun W W' hd hb k => by
  have e : W'.cell? ⟨B, 0, none⟩ = W.cell? ⟨B, 0, none⟩ := hb.cell (p := ⟨B, 0, none⟩) (by show B < _; omega)
  unfold rowR; rw [e]⟩
theorem rowR_new {W : World} {B k : Nat} {t : TypeId} {v : Value} (hv : Boxed W B t v) (h : rowR B W k) : k = B ∨ v.ownBlock = some k := by
  rcases h with h | ⟨v', hc, hk⟩
  · exact .inl h
  · rw [hv.cell] at hc; cases hc; exact .inr hk
/-- Behind 'out = append(out, x)': the variable's box B lies below D, the list's own row at D or beyond. -/
theorem app_sps {W w1 : World} {D B : Nat} {t e : TypeId} {size : Nat} {v v' : Value} {k m : Nat} {xs ys : List Value} {tmp : Obj}
    (hv : Boxed W B t v) (hte : t ≠ e) (hrow : W.ownsRow D e size v k xs) (hD : D ≤ W.heap.size) (hBD : B < D)
    (hown' : w1.ownsRow D e size v' m ys) (hgrow : (W.alloc tmp).grownBy w1 v.ownBlock) (hat : v'.ownBlock = v.ownBlock ∨ v'.ownBlock = some (W.alloc tmp).heap.size) :
    Boxed w1 B t v ∧ Boxed (w1.setCell ⟨B, 0, none⟩ v') B t v' ∧ (w1.setCell ⟨B, 0, none⟩ v').ownsRow D e size v' m ys ∧ KeepsOthers W (w1.setCell ⟨B, 0, none⟩ v') ∧ BelowS (fun k => k = B) D W (w1.setCell ⟨B, 0, none⟩ v') ∧ KeepD (rowR B) W (w1.setCell ⟨B, 0, none⟩ v') := by
  have hv1 : Boxed w1 B t v := (hv.alloc tmp).kept hgrow (hv.not_row hte hrow)
  have hv2 : Boxed (w1.setCell ⟨B, 0, none⟩ v') B t v' := hv1.set v'
  have hrow2 : (w1.setCell ⟨B, 0, none⟩ v').ownsRow D e size v' m ys := hown'.kept (grownBy_setCell' w1 B v') (.inr (hv1.not_row hte hown').symm)
  have hs1 : W.heap.size ≤ w1.heap.size := by have := hgrow.size; simp at this; omega
  have hs2 : w1.heap.size ≤ (w1.setCell ⟨B, 0, none⟩ v').heap.size := (KeepsWalks.setCell w1 _ v').size
  refine ⟨hv1, hv2, hrow2, ?_, ?_, ?_⟩
  · refine ((KeepsOthers.alloc W tmp).trans (KeepsOthers.of_grownBy hgrow fun j o ej hj => ?_)).trans (KeepsOthers.setCell _ _ _)
    rcases (hrow.alloc tmp).2 with ⟨rfl, _⟩ | ⟨g, cap, cur, rfl, _, hgb, _⟩
    · simp [Value.ownBlock] at ej
    · obtain rfl : g = j := by simpa [Value.ownBlock] using ej
      rw [hgb] at hj; cases hj; rfl
  · have h1 : BelowS (fun k => k = B) D W w1 := by
      refine (BelowS.of ((Below.refl D W).alloc hD tmp)).trans ⟨hgrow.os, hgrow.tape, hgrow.output, hgrow.size, fun k hk _ => hgrow.block k (by simp; omega) fun e => ?_⟩
      have := (hrow.lt k e.symm).1
      omega
    refine ⟨h1.os, h1.tape, h1.output, Nat.le_trans h1.size hs2, fun k hk hn => ?_⟩
    rw [Below.heap_setCell _ _ _ _ (by simpa using hn)]
    exact h1.block k hk hn
  · refine ⟨Nat.le_trans hs1 hs2, fun hl k hk => ?_, fun k hk hr => ?_, fun a u hc hn => ?_⟩
    · rcases rowR_new hv2 hk with rfl | hk
      · exact hv2.lt
      · exact (hrow2.lt k hk).2
    · rcases rowR_new hv2 hr with rfl | hk'
      · exact .inl rfl
      · rcases hat with h | h
        · exact .inr ⟨v, hv.cell, by rw [← h]; exact hk'⟩
        · rw [h] at hk'
          simp at hk'
          omega
    · have hab : a.block ≠ B := fun e => hn (.inl e)
      have har : v.ownBlock ≠ some a.block := fun e => hn (.inr ⟨v, hv.cell, e⟩)
      have hlt := World.block_lt_of_cell? W _ hc
      have e1 : (w1.setCell ⟨B, 0, none⟩ v').heap[a.block]? = w1.heap[a.block]? := Below.heap_setCell _ _ _ _ (by simpa using hab)
      have e2 : w1.heap[a.block]? = W.heap[a.block]? := by
        rw [hgrow.block _ (by simp; omega) (by exact fun e => har e.symm), Below.heap_alloc W tmp _ hlt]
      exact (World.cell?_of_block (w := W) (e1.trans e2)).trans hc
theorem run_equalIn_func_nil {P : Program} (W : World) (d : Nat) {t : TypeId} {x y : Array TypeId} {z : Bool} (f : Fn) (cs bs : Array Value) (h : P.underlying t = some (.func x y z)) : (Op.equalIn (d + 1) t (.func f cs bs) .nilFunc).run P W = .ok false W := by
  simp [Op.equalIn, run_underlying h]
theorem run_eql_func_nil {P : Program} (W : World) {t : TypeId} {x y : Array TypeId} {z : Bool} (f : Fn) (cs bs : Array Value) (h : P.underlying t = some (.func x y z)) : (binOp .eql t (.func f cs bs) .nilFunc).run P W = .ok (.bool false) W := by
  simp only [binOp]
  simp [Op.equal, Op.maxDepth, run_equalIn_func_nil W 9999 f cs bs h]
/-- What holds between two rounds. -/
def LpI (most : Nat) (w3 : World) (b : Nat) (pre : List (Nat × Nat)) (W : World) : Prop :=
  BelowS (fun k => k = b) w3.heap.size w3 W ∧ ∃ v, Boxed W b 22 v ∧ W.ownsRow w3.heap.size 31 2 v pre.length (SpC pre) ∧ pre.length ≤ most
theorem lpI_own (most : Nat) (w3 : World) (b : Nat) : OwnFrom w3.heap.size (LpI most w3 b) :=
  OwnFrom.and (belowS_own (Nat.le_refl _)) ((holdsRow_own w3.heap.size b 22 31 2 (fun pre : List (Nat × Nat) => pre.length) (fun pre => SpC pre) (fun pre _ => pre.length ≤ most)).from _)
/-- What the law's pieces returns. -/
def lpR (most : Nat) (L : List (Nat × Nat)) : List (Nat × Nat) × Bool := if L.length ≤ most then (L, true) else ([], false)
def LpPost (r : List (Nat × Nat) × Bool) (w : World) (e : Ending) (w' : World) : Prop := ∃ v, e = .returned (.tuple #[v, .bool r.2]) ∧ Below w.heap.size w w' ∧ w'.ownsRow w.heap.size 31 2 v r.1.length (SpC r.1)
/-- How a round ends that is one too many. -/
def LpX (most : Nat) (w : World) (c : Code) (pre : List (Nat × Nat)) (W : World) : Prop :=
  (c = .ret ∧ most < pre.length ∧ W.heap[w.heap.size + 1]? = some (.cells #[.slice none 0 0] 22 (0, 0)) ∧ W.heap[w.heap.size + 1 + 1]? = some (.cells #[.bool false] 4 (0, 0))) ∧ Below w.heap.size w W
theorem lpX_own (most : Nat) (w : World) (B : Nat) (hB : w.heap.size ≤ B) (c : Code) : OwnFrom B (LpX most w c) :=
  OwnFrom.and (fun s A B row hs hg hr => by
      obtain ⟨h1, h2, h5, h6⟩ := hs
      exact ⟨h1, h2, cells_own (fun _ : Unit => w.heap.size + 1) (fun _ => #[.slice none 0 0]) 22 () A B row h5 hg hr, cells_own (fun _ : Unit => w.heap.size + 1 + 1) (fun _ => #[.bool false]) 4 () A B row h6 hg hr⟩) (below_own hB (Nat.le_refl _))
theorem cutP_len {size : Nat} : ∀ f a e, (cutP size f a e).length ≤ f
  | 0, _, _ => by simp [cutP]
  | f + 1, a, e => by
    rw [cutP_succ]
    split
    · have := cutP_len (size := size) f (toP size a e) e
      simp; omega
    · simp
theorem piecesL_len {size N : Nat} : ∀ {s : List (Nat × Nat)}, IsSet N s → (piecesL size s).length ≤ s.length * N
  | [], _ => by simp [piecesL]
  | x :: s, h => by
    have h1 := piecesL_len (size := size) (s := s) ⟨fun y hy => h.run y (List.mem_cons_of_mem _ hy), (List.pairwise_cons.1 h.gap).2⟩
    have h2 := cutP_len (size := size) x.2 x.1 (x.1 + x.2)
    have h3 := (h.run x (List.mem_cons_self ..)).2
    have e : piecesL size (x :: s) = cutP size x.2 x.1 (x.1 + x.2) ++ piecesL size s := by unfold piecesL; rw [List.flatMap_cons]
    rw [e, List.length_append, List.length_cons, Nat.add_mul]
    omega
theorem keepD_putObj {W : World} {l b : Nat} {o o' : Obj} (hb : b < l) (hl : W.heap[l]? = some o) (hc : o.isCells = false) : KeepD (rowR b) W (W.putObj l o') := by
  have g := grownBy_putObj' W l o'
  have hcell : ∀ (a : Addr) v, W.cell? a = some v → a.block ≠ l := fun a v h e => by
    unfold World.cell? at h
    rw [e, hl] at h
    cases o <;> first | (simp at h; done) | (cases hc)
  have hcb : (W.putObj l o').cell? ⟨b, 0, none⟩ = W.cell? ⟨b, 0, none⟩ := World.cell?_of_block (World.putObj_heap_other (by show b ≠ l; omega))
  have hrr : ∀ k, rowR b (W.putObj l o') k ↔ rowR b W k := fun k => by unfold rowR; rw [hcb]
  exact ⟨g.size, fun h k hk => Nat.lt_of_lt_of_le (h k ((hrr k).1 hk)) g.size, fun k _ hk => (hrr k).1 hk, fun a v h _ => (World.cell?_of_block (World.putObj_heap_other (hcell a v h))).trans h⟩
set_option maxHeartbeats 4000000 in
set_option maxRecDepth 100000 in
theorem lpieces_in (q0 : Nat) (Bs Bz size most cap : Nat) (p : Option Addr) (s : List (Nat × Nat)) (w : World) (h3 : 3 ≤ q0) (hs : IsSet 1024 s) (hl : s.length ≤ 512) (hz1 : 1 ≤ size) (hz2 : size ≤ 1024)
    (hb : w.heap[Bs]? = some (.cells #[.slice p s.length cap] 22 (0, 0))) (hz : w.heap[Bz]? = some (.cells #[.int .i64 (size : Int)] 3 (0, 0))) (hp : SpsAt w p (up s)) :
    CallsIn Fence.wide q0 Try.prog 39 #[.func (.func 68) #[] #[.pointer (some ⟨Bs, 0, none⟩), .pointer (some ⟨Bz, 0, none⟩)], .int .i64 (most : Int)] w (LpPost (lpR most (piecesL size s)) w) := by
  refine callsIn_of_wp_marks Try.func39 rfl trivial ?_ rfl
  simp only [Try.ntmps39, List.size_toArray, List.length_cons, List.length_nil, Nat.reduceAdd, Nat.reduceSub, Array.replicate_succ, Array.replicate_zero, List.push_toArray, List.append_toArray, List.nil_append, List.cons_append]
  have hwf : ∀ f, Fence.wide.fn f := fun _ => trivial
  have hwd : Fence.wide.depth.isSome = false := rfl
  have q46 := fun W f cs bs => run_eql_func_nil (P := Try.prog) W (t := 46) f cs bs Try.underlying46
  have HB := Lib.hid hb; have HZ := Lib.hid hz; have HP := Lib.hid hp; have HS := Lib.hid hs
  have hplen := piecesL_len (size := size) hs
  clear hb hz hp hs
  obtain ⟨i0, hi, hz0, hz1', hz2'⟩ := info_parts info_span
  have HI := Lib.hid hi; have HZ0 := Lib.hid hz0; have HZ1 := Lib.hid hz1'; have HZ2 := Lib.hid hz2'
  clear hi hz0 hz1' hz2'
  gi_wp2
  obtain ⟨z1, z2, z3, z4, z5, z6⟩ := alloc4 w (.cells #[.int .i64 (most : Int)] 3) (.cells #[.slice none 0 0] 22) (.cells #[.bool false] 4) (.cells #[.slice none 0 0] 22)
  generalize (((w.alloc (.cells #[.int .i64 (most : Int)] 3)).alloc (.cells #[.slice none 0 0] 22)).alloc (.cells #[.bool false] 4)).alloc (.cells #[.slice none 0 0] 22) = w3 at z1 z2 z3 z4 z5 z6 ⊢
  obtain ⟨bo, hbo⟩ : ∃ bo, bo = w.heap.size + 1 + 1 + 1 := ⟨_, rfl⟩
  rw [← hbo] at z6 ⊢
  have lz : ∀ {k : Nat} {o : Obj}, w.heap[k]? = some o → k < w.heap.size := fun h => (Array.getElem?_eq_some_iff.1 h).1
  have b1 : w.heap.size + 3 ≤ bo := by omega
  have b2 : bo < w3.heap.size := by omega
  have b3 : w.heap.size + 4 ≤ w3.heap.size := by omega
  clear hbo z2
  have hBs := lz HB.out
  have hBz := lz HZ.out
  have hreads : QReads (rowR bo) w3.heap.size Bs Bz size p cap s w3 := by
    have hn : ∀ k, rowR bo w3 k → k = bo := fun k h => by
      rcases rowR_new (show Boxed w3 bo 22 (.slice none 0 0) from z6) h with h | h
      · exact h
      · cases h
    refine ⟨Nat.le_refl _, fun k h => ?_, cell_of_row1 ((z1.block _ hBs).trans HB.out), cell_of_row1 ((z1.block _ hBz).trans HZ.out), fun h => ?_, fun h => ?_, HP.out.below z1, fun h0 g off e h => ?_⟩
    · have := hn k h; omega
    · have := hn _ h; omega
    · have := hn _ h; omega
    · have := hn _ h
      obtain ⟨g', off', e', hg', _⟩ := HP.out.at_ (by rw [up_len]; exact h0)
      rw [e] at e'; cases e'; omega
  have hstops := pieces_stops (q0 - 1) (rowR bo) w3.heap.size Bs Bz size cap p s HS.out hl hz1 hz2 (rowR_stab (by omega)) w3 hreads
  have HBW := Lib.hid z1; have HG0 := Lib.hid z3; have HG1 := Lib.hid z4; have HG2 := Lib.hid z5
  have h7 : Boxed w3 bo 22 (.slice none 0 0) := z6
  have hlN : (piecesL size s).length ≤ 524288 := Nat.le_trans hplen (Nat.mul_le_mul_right 1024 hl)
  clear hreads z1 z3 z4 z5 z6 q46
  refine wpIn_rangeFunc_ownH rfl (by omega) (gf := 68) (lb := #[.pointer (some ⟨Bs, 0, none⟩), .pointer (some ⟨Bz, 0, none⟩)]) rfl trivial (enters_of Try.func68 (by kernel_rfl) rfl) hstops KeepD.trans (fun W l o o' hl2 ho hc _ => keepD_putObj (by omega) ho hc) (Below.refl _ _) (fun _ => rfl)
    (LpI most w3 bo) (LpX most w) (lpI_own most w3 bo) (fun c => lpX_own most w _ (by omega) c)
    ⟨BelowS.refl _ _ _, .slice none 0 0, h7, World.ownsRow_nil _ _ _ _, Nat.zero_le _⟩
    (fun x a' W2 => ∃ Bx : Nat, w3.heap.size ≤ Bx ∧ W2.heap[Bx]? = some (.cells #[.int .i64 (x.1 : Int), .int .i64 (x.2 : Int)] 31 (0, 0)) ∧ a' =
        { tmps := #[.func (.func 68) #[] #[.pointer (some ⟨Bs, 0, none⟩), .pointer (some ⟨Bz, 0, none⟩)],
          .int .i64 (most : Int), undef, .pointer (some ⟨w.heap.size, 0, none⟩), .pointer (some ⟨w.heap.size + 1, 0, none⟩), .pointer (some ⟨w.heap.size + 1 + 1, 0, none⟩), .pointer (some ⟨bo, 0, none⟩), .pointer (some ⟨Bx, 0, none⟩),
          .func (.func 68) #[] #[.pointer (some ⟨Bs, 0, none⟩), .pointer (some ⟨Bz, 0, none⟩)], .bool false, .func (.func 68) #[] #[.pointer (some ⟨Bs, 0, none⟩), .pointer (some ⟨Bz, 0, none⟩)],
          .agg #[.int .i64 (x.1 : Int), .int .i64 (x.2 : Int)], undef, undef, undef, undef, undef, undef, undef, undef, undef], defers := [] })
    (fun x a' s A B row ⟨Bx, h1, h2, h3⟩ hg hr => ⟨Bx, h1, cells_own (fun _ : Unit => Bx) (fun _ => #[.int .i64 (x.1 : Int), .int .i64 (x.2 : Int)]) 31 s A B row h2 hg hr, h3⟩) ?assign ?body ?done ?stop
  case assign =>
    intro ly pre x W2 K2 hi hK2
    have hsz := hi.1.size
    have HI2 := Lib.hid hi; clear hi
    simp only [spV]
    gi_wp2
    have hbx : Below W2.heap.size W2 (W2.alloc (.cells #[.int .i64 (x.1 : Int), .int .i64 (x.2 : Int)] 31)) := (Below.refl _ _).alloc (Nat.le_refl _) _
    obtain ⟨j1, v, j2, j3, j4⟩ := HI2.out
    exact hK2 _ _ ((KeepsOthers.alloc _ _).from _) (KeepD.of (rowR_stab (D := w3.heap.size) (by omega)) hsz hbx) ⟨j1.trans (BelowS.of (hbx.mono (by omega))), v, j2.alloc _, j3.alloc _, j4⟩ ⟨W2.heap.size, by omega, heap_alloc_new _ _, rfl⟩
  case body =>
    rintro ly pre x a' W2 hly ⟨r, hr⟩ ⟨hbx, v, hk7, hown, hpm⟩ ⟨Bx, hBx, hbox, rfl⟩ hlt
    clear hr
    have hwf2 : ∀ f, (Fence.wide.inRound ly).fn f := fun _ => trivial
    have hwd2 : (Fence.wide.inRound ly).depth.isSome = false := rfl
    obtain ⟨xs, xe⟩ := x
    simp only at hbox ⊢
    have k0 := row_cell (i := 0) (v := .int .i64 (xs : Int)) hbox rfl
    have k1 := row_cell (i := 1) (v := .int .i64 (xe : Int)) hbox rfl
    have j7 := hk7.cell
    have f7 := hk7.frozen
    have hq0 := (hbx.block w.heap.size (by omega) (by omega)).trans HG0.out
    have hq1 := (hbx.block (w.heap.size + 1) (by omega) (by omega)).trans HG1.out
    have hq2 := (hbx.block (w.heap.size + 1 + 1) (by omega) (by omega)).trans HG2.out
    have g0 := (row1_cell hq0).1
    obtain ⟨k3, f3⟩ := row1_cell hq1
    obtain ⟨k4, f4⟩ := row1_cell hq2
    have hszD := hbx.size
    obtain ⟨N, hN⟩ : ∃ N, N = pre.length := ⟨_, rfl⟩
    obtain ⟨pv, cv, rfl⟩ : ∃ pv cv, v = .slice pv N cv := by
      rcases hown.2 with ⟨h, h0⟩ | ⟨g, c, cur, h, _⟩
      · exact ⟨none, 0, by rw [h, hN, h0]⟩
      · exact ⟨_, _, by rw [h, hN]⟩
    have HBX := Lib.hid hbx; have HK7 := Lib.hid hk7; have HQ1 := Lib.hid hq1; have HQ2 := Lib.hid hq2
    by_cases hm : N = most
    · have t1 : ((N : Int) == (most : Int)) = true := by rw [hm]; exact beq_self_eq_true _
      have hbb : Below w.heap.size w W2 := HBW.out.trans ⟨hbx.os, hbx.tape, hbx.output, hbx.size, fun k hk => hbx.block k (by omega) (by omega)⟩
      have HBB := Lib.hid hbb; have HMM := Lib.hid (show most < (pre ++ [(xs, xe)]).length by rw [List.length_append, ← hN, hm]; simp)
      clear hbx hbox hstops hk7 hown hlt hN hm hq0 hq1 hq2 hbb hplen hlN h7 hpm
      gi_wp2
      refine ⟨((KeepsOthers.setCell _ _ _).trans (KeepsOthers.setCell _ _ _)).from _, ⟨rfl, HMM.out, ?_, ?_⟩, ?_⟩
      · rw [Below.heap_setCell _ _ _ _ (by simp)]; exact set_row1 HQ1.out
      · have h3 : (W2.setCell ⟨w.heap.size + 1, 0, none⟩ (.slice none 0 0)).heap[w.heap.size + 1 + 1]? = some (.cells #[.bool false] 4 (0, 0)) := by
          rw [Below.heap_setCell _ _ _ _ (by simp)]; exact HQ2.out
        exact set_row1 h3
      · exact set1B (set1B HBB.out (by omega) _) (by omega) _
    · have t1 : ((N : Int) == (most : Int)) = false := beq_eq_false_iff_ne.2 (by omega)
      have hsn := SpC_snoc pre xs xe
      have hb1 : N + 1 ≤ maxLen := by unfold maxLen; omega
      have hb2 : (N + 1) * 16 ≤ 140737488355328 := by omega
      have hpm2 : (pre ++ [(xs, xe)]).length ≤ most := by rw [List.length_append, ← hN]; simp; omega
      rw [← hN] at hown
      have hbD : bo < w3.heap.size := by omega
      have HL1 := Lib.hid hb1; have HL2 := Lib.hid hb2; have H1C := Lib.hid (two_onecell (xs : Int) (xe : Int))
      have HOWN := Lib.hid hown; have HSN := Lib.hid hsn; have HPM := Lib.hid hpm2; have HNN := Lib.hid hN
      clear hbx hbox hstops hk7 hown hlt hN hm hq0 hq1 hq2 hplen hlN h7 hpm hb1 hb2 hsn hpm2 k3 k4 f3 f4
      gi_wp2_with (gi_at_builtin; refine wpListIn_append_own_at _ rfl _ _ 22 rfl w3.heap.size 31 i0 (.agg #[.int .i64 0, .int .i64 0]) 2 16 Try.underlying22 HI.out HZ0.out HZ1.out HZ2.out rfl (by decide) _ _ _ rfl (HOWN.out.alloc _) ⟨W2.heap.size, 0, none⟩ 1 1 [.int .i64 (xs : Int), .int .i64 (xe : Int)] rfl rfl (cellB_two _ _ _ _ _ rfl) H1C.out HL1.out HL2.out (by simp; omega) ?_; intro v4 w4 hown4 hgrow4 hnil4 hat4; obtain ⟨g4, cap4, rfl⟩ := ownsRow_succ hown4; obtain ⟨n1, n2, n3, n4, n5, n6⟩ := app_sps HK7.out (by decide) HOWN.out hszD hbD hown4 hgrow4 hat4; have j8 := n1.cell; have f8 := n1.frozen; have HN2 := Lib.hid n2; have HN3 := Lib.hid n3; have HN4 := Lib.hid n4; have HN5 := Lib.hid n5; have HN6 := Lib.hid n6; clear hown4 hgrow4 hnil4 hat4 n1 n2 n3 n4 n5 n6)
      exact ⟨HN4.out.from _, HN6.out, HBX.out.trans HN5.out, _, HN2.out, by rw [HSN.out, List.length_append, ← HNN.out]; exact HN3.out, HPM.out⟩
  case done =>
    rintro D' ys W2 hD' hys ⟨hbx, v, hk7, hown, hpm⟩ hmark
    have hys' : ys = piecesL size s := hys
    rw [hys'] at hown hpm
    have hlp : lpR most (piecesL size s) = (piecesL size s, true) := by unfold lpR; rw [if_pos hpm]
    have HLP := Lib.hid hlp
    obtain ⟨pv, nv, cv, rfl⟩ : ∃ pv nv cv, v = .slice pv nv cv := by
      rcases hown.2 with ⟨h, h0⟩ | ⟨g, c, cur, h, _⟩
      · exact ⟨_, _, _, h⟩
      · exact ⟨_, _, _, h⟩
    have j7 := hk7.cell
    have hq1 := (hbx.block (w.heap.size + 1) (by omega) (by omega)).trans HG1.out
    have hq2 := (hbx.block (w.heap.size + 1 + 1) (by omega) (by omega)).trans HG2.out
    obtain ⟨k3, f3⟩ := row1_cell hq1
    obtain ⟨k4, f4⟩ := row1_cell hq2
    have hbb : Below w.heap.size w W2 := HBW.out.trans ⟨hbx.os, hbx.tape, hbx.output, hbx.size, fun k hk => hbx.block k (by omega) (by omega)⟩
    have hW2 := hbx.size
    have HBB := Lib.hid hbb; have HM := Lib.hid hmark; have HOWN := Lib.hid hown; have HQ1 := Lib.hid hq1; have HQ2 := Lib.hid hq2
    clear hys hys' hbx hk7 hmark hbb hstops hown hpm hlp hq1 hq2 hplen hlN h7
    gi_wp2
    have r2 : ((W2.setCell ⟨w.heap.size + 1, 0, none⟩ (.slice pv nv cv)).setCell ⟨w.heap.size + 1 + 1, 0, none⟩ (.bool true)).heap[w.heap.size + 1]? = some (.cells #[.slice pv nv cv] 22 (0, 0)) := by
      rw [Below.heap_setCell _ _ _ _ (by simp)]; exact set_row1 HQ1.out
    have r3 : ((W2.setCell ⟨w.heap.size + 1, 0, none⟩ (.slice pv nv cv)).setCell ⟨w.heap.size + 1 + 1, 0, none⟩ (.bool true)).heap[w.heap.size + 1 + 1]? = some (.cells #[.bool true] 4 (0, 0)) := by
      have h3 : (W2.setCell ⟨w.heap.size + 1, 0, none⟩ (.slice pv nv cv)).heap[w.heap.size + 1 + 1]? = some (.cells #[.bool false] 4 (0, 0)) := by
        rw [Below.heap_setCell _ _ _ _ (by simp)]; exact HQ2.out
      exact set_row1 h3
    have hb3 : Below w.heap.size w ((W2.setCell ⟨w.heap.size + 1, 0, none⟩ (.slice pv nv cv)).setCell ⟨w.heap.size + 1 + 1, 0, none⟩ (.bool true)) := set1B (set1B HBB.out (by omega) _) (by omega) _
    have hm3 : ((W2.setCell ⟨w.heap.size + 1, 0, none⟩ (.slice pv nv cv)).setCell ⟨w.heap.size + 1 + 1, 0, none⟩ (.bool true)).heap[D']? = some (.deferred (some [])) := by
      rw [Below.heap_setCell _ _ _ _ (by simp; omega), Below.heap_setCell _ _ _ _ (by simp; omega)]; exact HM.out
    have hr3 : ((W2.setCell ⟨w.heap.size + 1, 0, none⟩ (.slice pv nv cv)).setCell ⟨w.heap.size + 1 + 1, 0, none⟩ (.bool true)).ownsRow w3.heap.size 31 2 (.slice pv nv cv) (piecesL size s).length (SpC (piecesL size s)) := by
      have hne : ∀ k, k < w3.heap.size → (Value.slice pv nv cv).ownBlock = none ∨ (Value.slice pv nv cv).ownBlock ≠ some k := fun k hk => .inr fun e => by
        have := (HOWN.out.lt k e).1; omega
      exact (HOWN.out.kept (grownBy_setCell' W2 _ _) (hne _ (by omega))).kept (grownBy_setCell' _ _ _) (hne _ (by omega))
    generalize (W2.setCell ⟨w.heap.size + 1, 0, none⟩ (.slice pv nv cv)).setCell ⟨w.heap.size + 1 + 1, 0, none⟩ (.bool true) = W3 at r2 r3 hb3 hm3 hr3 ⊢
    refine ⟨by simp, .inl ⟨D', _, rfl, run_takeDeferred hm3, ?_⟩⟩
    have k5 := (row1_cell ((World.putObj_heap_other (w := W3) (o := .deferred none) (show w.heap.size + 1 ≠ D' by omega)).trans r2)).1
    have k6 := (row1_cell ((World.putObj_heap_other (w := W3) (o := .deferred none) (show w.heap.size + 1 + 1 ≠ D' by omega)).trans r3)).1
    refine ⟨.tuple #[.slice pv nv cv, .bool true], by simp [results, Try.results39, go_sem, k5, k6], ?_⟩
    rw [HLP.out]
    refine ⟨_, rfl, ?_, ?_⟩
    · exact hb3.trans ((Below.refl _ _).grown (grownBy_putObj' W3 D' _) (by have := hb3.size; omega) (fun k e => by cases e; omega))
    · exact ownsRow_base (ownsRow_putObj hr3 _ hm3 rfl) (by omega)
  case stop =>
    rintro D' c pre W2 hD' hpre ⟨⟨rfl, hmm, h5, h6⟩, hbel⟩ hmark
    have hlp : lpR most (piecesL size s) = ([], false) := by
      unfold lpR
      rw [if_neg]
      have := (show pre <+: piecesL size s from hpre).length_le
      omega
    have HLP := Lib.hid hlp; have HBE := Lib.hid hbel; have H5 := Lib.hid h5; have H6 := Lib.hid h6; have HM := Lib.hid hmark
    clear hlp hbel h5 h6 hmark hpre hstops hplen hlN h7
    gi_wp2
    refine leaves_marks (w.heap.size + 4) W2 [D'] W2 (fun E hE => ?_) (by simp) (Below.refl _ _) (fun W' hb' => ?_)
    · obtain rfl := List.mem_singleton.1 hE
      exact ⟨by omega, HM.out⟩
    · have k5 := (row1_cell ((hb'.block _ (by omega)).trans H5.out)).1
      have k6 := (row1_cell ((hb'.block _ (by omega)).trans H6.out)).1
      refine ⟨.tuple #[.slice none 0 0, .bool false], by simp [results, Try.results39, go_sem, k5, k6], ?_⟩
      rw [HLP.out]
      exact ⟨_, rfl, HBE.out.trans (hb'.mono (by omega)), World.ownsRow_nil _ _ _ _⟩
end Go.Proofs.Ytnhbilcpdombfaa
