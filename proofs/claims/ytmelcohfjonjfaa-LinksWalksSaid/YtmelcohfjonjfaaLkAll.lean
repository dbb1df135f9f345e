/- links: what iterators and the loops over them need (as in SpIter). links: All, the iterator over a list's slots, where the loop's body leaves the pool as it is. -/
import Derived.Test.YtmelcohfjonjfaaLkAwake
import Derived.RangeFuncBox
import Derived.Maps.AppendAt
import Derived.RangeFuncNested
import Derived.RangeFuncBound
import Derived.RangeFuncCalls
import Derived.RangeFuncLeaves
import Derived.Shelf.Abstract
import Derived.OwnWalkIn
import Derived.TacticsInMore
import Derived.LoopNIn
import Derived.LoopIn
import Derived.Sort.QuietIn
import Derived.Sort.LoopGhostIn
import Derived.Sort.BigQuietIn
namespace Go.Proofs.Ytmelcohfjonjfaa
open Go.RowKit Go.Shelf
attribute [local go_sem] Oper.semAt_some

theorem grownBy_of_below {w w' : World} (h : Below w.heap.size w w') (row : Option Nat) : w.grownBy w' row := ⟨h.os, h.tape, h.output, h.size, fun k hk _ => h.block k hk⟩
theorem cell_of_row1 {W : World} {B : Nat} {v : Value} {t : TypeId} (h : W.heap[B]? = some (.cells #[v] t (0, 0))) : W.cell? ⟨B, 0, none⟩ = some v := row_cell h rfl
theorem belowS_b {S : Nat → Prop} {D : Nat} {w1 : World} (hD : D ≤ w1.heap.size) (W : World) (l : Nat) (o o' : Obj) (hl : w1.heap.size ≤ l) (_ : W.heap[l]? = some o) (_ : o.isCells = false) (_ : o.isWalk = false) : BelowS S D W (W.putObj l o') := by
  have g := grownBy_putObj' W l o'
  refine ⟨g.os, g.tape, g.output, g.size, fun k hk _ => World.putObj_heap_other (by omega)⟩
theorem belowS_own {β : Type} {S : Nat → Prop} {D : Nat} {w1 : World} (hD : D ≤ w1.heap.size) : OwnFrom w1.heap.size (fun (_ : β) W => BelowS S D w1 W) := by
  intro s W W' row hs hg hr
  refine hs.trans ⟨hg.os, hg.tape, hg.output, hg.size, fun k hk _ => hg.block k (Nat.lt_of_lt_of_le (Nat.lt_of_lt_of_le hk hD) hs.size) (fun e => ?_)⟩
  have := (hr k e.symm).1; omega
theorem below_own {β : Type} {b B : Nat} {w0 : World} (hb : b ≤ B) (hz : b ≤ w0.heap.size) : OwnFrom B (fun (_ : β) W => Below b w0 W) := by
  intro s W W' row hs hg hr
  refine hs.trans ⟨hg.os, hg.tape, hg.output, hg.size, fun k hk => hg.block k (Nat.lt_of_lt_of_le (Nat.lt_of_lt_of_le hk hz) hs.size) (fun e => ?_)⟩
  have := (hr k e.symm).1; omega
theorem cells_own {β : Type} {B : Nat} (k : β → Nat) (c : β → Array Value) (t : TypeId) : OwnFrom B (fun s W => W.heap[k s]? = some (.cells (c s) t (0, 0))) := by
  intro s W W' row hs hg hr
  refine (hg.block _ (Array.getElem?_eq_some_iff.1 hs).1 (fun e => ?_)).trans hs
  obtain ⟨_, o, ho, hc⟩ := hr _ e.symm
  rw [hs] at ho; cases ho; cases hc
theorem alloc4 (w : World) (o1 o2 o3 o4 : Obj) : Below w.heap.size w ((((w.alloc o1).alloc o2).alloc o3).alloc o4) ∧ ((((w.alloc o1).alloc o2).alloc o3).alloc o4).heap.size = w.heap.size + 4 ∧
    ((((w.alloc o1).alloc o2).alloc o3).alloc o4).heap[w.heap.size]? = some o1 ∧ ((((w.alloc o1).alloc o2).alloc o3).alloc o4).heap[w.heap.size + 1]? = some o2 ∧
    ((((w.alloc o1).alloc o2).alloc o3).alloc o4).heap[w.heap.size + 1 + 1]? = some o3 ∧ ((((w.alloc o1).alloc o2).alloc o3).alloc o4).heap[w.heap.size + 1 + 1 + 1]? = some o4 := by
  have s1 : (w.alloc o1).heap.size = w.heap.size + 1 := by simp
  have s2 : ((w.alloc o1).alloc o2).heap.size = w.heap.size + 1 + 1 := by simp
  have s3 : (((w.alloc o1).alloc o2).alloc o3).heap.size = w.heap.size + 1 + 1 + 1 := by simp
  have n1 := heap_alloc_new w o1
  have n2 := heap_alloc_new (w.alloc o1) o2
  have n3 := heap_alloc_new ((w.alloc o1).alloc o2) o3
  have n4 := heap_alloc_new (((w.alloc o1).alloc o2).alloc o3) o4
  rw [s1] at n2; rw [s2] at n3; rw [s3] at n4
  refine ⟨((((Below.refl _ _).alloc (Nat.le_refl _) _).alloc (by omega) _).alloc (by omega) _).alloc (by omega) _, by simp, ?_, ?_, ?_, n4⟩
  · rw [Below.heap_alloc _ _ _ (by omega), Below.heap_alloc _ _ _ (by omega), Below.heap_alloc _ _ _ (by omega), n1]
  · rw [Below.heap_alloc _ _ _ (by omega), Below.heap_alloc _ _ _ (by omega), n2]
  · rw [Below.heap_alloc _ _ _ (by omega), n3]
theorem alloc3 (w : World) (o1 o2 o3 : Obj) : Below w.heap.size w (((w.alloc o1).alloc o2).alloc o3) ∧ (((w.alloc o1).alloc o2).alloc o3).heap.size = w.heap.size + 3 ∧
    (((w.alloc o1).alloc o2).alloc o3).heap[w.heap.size]? = some o1 ∧ (((w.alloc o1).alloc o2).alloc o3).heap[w.heap.size + 1]? = some o2 ∧
    (((w.alloc o1).alloc o2).alloc o3).heap[w.heap.size + 2]? = some o3 := by
  have s1 : (w.alloc o1).heap.size = w.heap.size + 1 := by simp
  have s2 : ((w.alloc o1).alloc o2).heap.size = w.heap.size + 1 + 1 := by simp
  have n1 := heap_alloc_new w o1
  have n2 := heap_alloc_new (w.alloc o1) o2
  have n3 := heap_alloc_new ((w.alloc o1).alloc o2) o3
  rw [s1] at n2; rw [s2] at n3
  refine ⟨(((Below.refl _ _).alloc (Nat.le_refl _) _).alloc (by omega) _).alloc (by omega) _, by simp, ?_, ?_, n3⟩
  · rw [Below.heap_alloc _ _ _ (by omega), Below.heap_alloc _ _ _ (by omega), n1]
  · rw [Below.heap_alloc _ _ _ (by omega), n2]
def markOf (D : Nat) : Deferred := { target := .collected D, args := #[] }
theorem leaves_marks {n : Nat} {P : Program} {fn : Func} {tmps : Array Value} {R : Ending → World → Prop} (B : Nat) (w0 : World) : ∀ (ds : List Nat) (W : World), (∀ D ∈ ds, B ≤ D ∧ W.heap[D]? = some (.deferred (some []))) → ds.Nodup → Below B w0 W →
    (∀ W', Below B w0 W' → LeavesInM Fence.wide n P fn tmps R [] .returning W') → LeavesInM Fence.wide n P fn tmps R (ds.map markOf) .returning W
  | [], W, _, _, hb, h => h W hb
  | D :: ds, W, hm, hn, hb, h => by
    have hD := hm D (by simp)
    have hlt := (Array.getElem?_eq_some_iff.1 hD.2).1
    refine ⟨by simp, .inl ⟨D, _, rfl, run_takeDeferred hD.2, leaves_marks B w0 ds _ ?_ (List.nodup_cons.1 hn).2 ?_ h⟩⟩
    · intro E hE
      have hne : E ≠ D := fun e => (List.nodup_cons.1 hn).1 (e ▸ hE)
      exact ⟨(hm E (List.mem_cons_of_mem _ hE)).1, (World.putObj_heap_other hne).trans (hm E (List.mem_cons_of_mem _ hE)).2⟩
    · exact hb.trans ((Below.refl B W).grown (grownBy_putObj' W D _) (by omega) (fun k e => by cases e; exact hD.1))
theorem row1_cell {W : World} {B : Nat} {v : Value} {t : TypeId} (h : W.heap[B]? = some (.cells #[v] t (0, 0))) : W.cell? ⟨B, 0, none⟩ = some v ∧ W.frozen? ⟨B, 0, none⟩ = false := ⟨row_cell h rfl, row_free h⟩
theorem set1B {w W : World} {b B : Nat} (h : Below b w W) (hB : b ≤ B) (u : Value) : Below b w (W.setCell ⟨B, 0, none⟩ u) := Below.setCell (p := ⟨B, 0, none⟩) h hB u

theorem set_row1 {W : World} {B : Nat} {u v : Value} {t : TypeId} (h : W.heap[B]? = some (.cells #[u] t (0, 0))) : (W.setCell ⟨B, 0, none⟩ v).heap[B]? = some (.cells #[v] t (0, 0)) := by
  rw [heap_set v h]; rfl
theorem keepsOthers_of_below {W W' : World} (h : Below W.heap.size W W') : KeepsOthers W W' := KeepsOthers.of_grownBy (grownBy_of_below h none) (fun j o e => by cases e)

/-- What an iterator's two invariants are at the loop that runs it. -/
structure LoopsV {X : Type} (V : X → Array Value) (n : Nat) (S : Nat → Prop) (D : Nat) (l N : Nat) (J Jx : List X → World → Prop) (B : Nat) : Prop where
  jb : AbidesFrom B J
  jx : AbidesFrom B Jx
  yield : ∀ pre x W1, J pre W1 → pre.length < N → YieldAt Fence.wide n Try.prog l (V x) W1 fun e W' =>
      (e = .returned (.bool true) ∧ J (pre ++ [x]) W' ∧ BelowS S D W1 W') ∨ (e = .returned (.bool false) ∧ Jx (pre ++ [x]) W')
theorem LoopsV.grow {X : Type} {V : X → Array Value} {n : Nat} {S : Nat → Prop} {D l N : Nat} {J Jx : List X → World → Prop} {B : Nat} (h : LoopsV V n S D l N J Jx B) {pre : List X} {W W' : World} (hj : J pre W) (hb : Below W.heap.size W W') : J pre W' :=
  h.jb pre W W' none hj (grownBy_of_below hb none) (fun r e => by cases e)
/-- What a round answers, as one truth value. -/
def RoundP (A B : World → Prop) (e : Ending) (W' : World) : Prop := ∃ y, e = .returned (.bool y) ∧ ((y = true ∧ A W') ∨ (y = false ∧ B W'))
theorem yield_bool {n l : Nat} {vs : Array Value} {W : World} {A B : World → Prop} (h : YieldAt Fence.wide n Try.prog l vs W fun e W' => (e = .returned (.bool true) ∧ A W') ∨ (e = .returned (.bool false) ∧ B W')) :
    YieldAt Fence.wide n Try.prog l vs W (RoundP A B) := h.mono fun e W' h => by
  rcases h with ⟨h1, h2⟩ | ⟨h1, h2⟩
  · exact ⟨true, h1, .inl ⟨rfl, h2⟩⟩
  · exact ⟨false, h1, .inr ⟨rfl, h2⟩⟩
def IterPost {X : Type} (L : List X) (J Jx : List X → World → Prop) (e : Ending) (W' : World) : Prop := (∃ v, e = .returned v) ∧ ((∃ ys, ys = L ∧ J ys W') ∨ (∃ pre, pre <+: L ∧ Jx pre W'))
theorem iter_done {X : Type} {L : List X} {J Jx : List X → World → Prop} {v : Value} {W' : World} (h : J L W') : IterPost L J Jx (.returned v) W' := ⟨⟨_, rfl⟩, .inl ⟨L, rfl, h⟩⟩
theorem iter_stop {X : Type} {L : List X} {J Jx : List X → World → Prop} {v : Value} {W' : World} (pre : List X) (hp : pre <+: L) (h : Jx pre W') : IterPost L J Jx (.returned v) W' := ⟨⟨_, rfl⟩, .inr ⟨pre, hp, h⟩⟩
end Go.Proofs.Ytmelcohfjonjfaa
namespace Go.Proofs.Ytmelcohfjonjfaa
open Go.RowKit Go.Shelf
attribute [local go_sem] Oper.semAt_some

/-- A list's slots, as All yields them. -/
def ordL (of : Nat → List Nat) (l : Nat) (back : Bool) : List Nat := if back then (of l).reverse else of l
theorem hd_reverse : ∀ l : List Nat, hd l.reverse = lst l
  | [] => rfl
  | a :: l => by
    rw [List.reverse_cons, hd_append, lst_cons, hd_reverse l]
    by_cases h : l = []
    · simp [h, hd]
    · rw [if_neg (by simpa using h), if_neg h]
theorem ord_start {n m : Nat} {of : Nat → List Nat} {F : LkF} (h : Rep n m of F) {l : Nat} (hl : l < m) (back : Bool) : (if (!back) = true then F.first l else F.last l) = hd (ordL of l back) := by
  obtain ⟨h1, h2⟩ := h.ends l hl
  cases back
  · exact h1
  · show F.last l = hd (of l).reverse
    rw [hd_reverse, h2]
theorem ord_step {n m : Nat} {of : Nat → List Nat} {F : LkF} (h : Rep n m of F) {l : Nat} (hl : l < m) {back : Bool} {pre rest : List Nat} {x : Nat} (e : ordL of l back = pre ++ x :: rest) :
    (if back = true then F.prev x else F.next x) = hd rest ∧ F.list x = (l : Int) ∧ x < n := by
  have hnd := h.nodup l hl
  have hx : x ∈ of l := by
    unfold ordL at e
    cases back
    · rw [show of l = _ from e]; simp
    · have : x ∈ (of l).reverse := by rw [show (of l).reverse = _ from e]; simp
      simpa using this
  obtain ⟨u1, u2, u3⟩ := h.used l hl x hx
  refine ⟨?_, u1, h.lt l hl x hx⟩
  unfold ordL at e
  cases back
  · have e : of l = pre ++ x :: rest := e
    show F.next x = _
    rw [u2]
    rw [e] at hnd ⊢
    have hno : x ∉ pre := fun hp => (List.nodup_append.1 hnd).2.2 x hp x (List.mem_cons_self ..) rfl
    rw [nx_append hnd, if_neg hno]
    show (if x = x then _ else _) = _
    rw [if_pos rfl]
  · have e : (of l).reverse = pre ++ x :: rest := e
    have e2 : of l = rest.reverse ++ x :: pre.reverse := by
      have := congrArg List.reverse e
      rw [List.reverse_reverse] at this
      rw [this]; simp
    show F.prev x = _
    rw [u3]
    rw [e2] at hnd ⊢
    rw [pv_first hnd (List.mem_cons_self ..) rfl, ← hd_reverse, List.reverse_reverse]
/-- What the iterator reads. -/
structure AReads (S : Nat → Prop) (D K B n m : Nat) (Dk : LkB) (v : Nat → Int) (of : Nat → List Nat) (l : Int) (back : Bool) (W : World) : Prop where
  dl : D ≤ W.heap.size
  pbox : W.heap[K]? = some (.cells #[.pointer (some ⟨B, 0, none⟩)] 24 (0, 0))
  lbox : W.heap[K + 1]? = some (.cells #[.int .i64 l] 3 (0, 0))
  bbox : W.heap[K + 1 + 1]? = some (.cells #[.bool back] 4 (0, 0))
  pool : PoolS W B n m Dk v of
structure AFree (S : Nat → Prop) (D K B : Nat) (Dk : LkB) : Prop where
  b0 : K + 1 + 1 < D
  n0 : ¬ S K
  n1 : ¬ S (K + 1)
  n2 : ¬ S (K + 1 + 1)
  pl : ∀ k, k = B ∨ Dk.S k → k < D ∧ ¬ S k
theorem AReads.later {S : Nat → Prop} {D K B n m : Nat} {Dk : LkB} {v : Nat → Int} {of : Nat → List Nat} {l : Int} {back : Bool} {W W' : World} (h : AReads S D K B n m Dk v of l back W) (hf : AFree S D K B Dk) (hb : BelowS S D W W') : AReads S D K B n m Dk v of l back W' := by
  have h0 := hf.b0
  obtain ⟨F, p, r⟩ := h.pool
  exact ⟨Nat.le_trans h.dl hb.size, (hb.block _ (by omega) hf.n0).trans h.pbox, (hb.block _ (by omega) hf.n1).trans h.lbox, (hb.block _ (by omega) hf.n2).trans h.bbox,
    ⟨F, p.block (fun k hk => hb.block k (hf.pl k hk).1 (hf.pl k hk).2), r⟩⟩
theorem All_any (B : Nat) (l : Int) (back : Bool) (w : World) : Calls Try.prog 27 #[.pointer (some ⟨B, 0, none⟩), .int .i64 l, .bool back] w fun e w' =>
    e = .returned (.func (.func 58) #[] #[.pointer (some ⟨w.heap.size, 0, none⟩), .pointer (some ⟨w.heap.size + 1, 0, none⟩), .pointer (some ⟨w.heap.size + 1 + 1, 0, none⟩)]) ∧
    w' = ((w.alloc (.cells #[.pointer (some ⟨B, 0, none⟩)] 24)).alloc (.cells #[.int .i64 l] 3)).alloc (.cells #[.bool back] 4) := by
  go_enter Try.func27, Try.ntmps27
  go_wp2
  go_ret
  exact ⟨rfl, rfl⟩
def allL (m : Nat) (of : Nat → List Nat) (l : Int) (back : Bool) : List Nat := if listE m l = 0 then ordL of l.toNat back else []
def slotV (v : Nat → Int) (x : Nat) : Array Value := #[.int .i64 (x : Int), .int .i64 (v x)]
set_option maxRecDepth 100000 in
set_option maxHeartbeats 2000000 in
theorem all1_in (q : Nat) (S : Nat → Prop) (D K B n m ly : Nat) (Dk : LkB) (v : Nat → Int) (of : Nat → List Nat) (l : Int) (back : Bool) (hf : AFree S D K B Dk)
    (J Jx : List Nat → World → Prop) (W : World) (hL : LoopsV (slotV v) (q - 1) S D ly (allL m of l back).length J Jx W.heap.size) (hR : AReads S D K B n m Dk v of l back W) (h0 : J [] W) :
    CallsIn Fence.wide q Try.prog 58 #[.func (.yield ly) #[] #[], .pointer (some ⟨K, 0, none⟩), .pointer (some ⟨K + 1, 0, none⟩), .pointer (some ⟨K + 1 + 1, 0, none⟩)] W (IterPost (allL m of l back) J Jx) := by
  refine callsIn_of_wp Try.func58 rfl trivial ?_ rfl
  simp only [Try.ntmps58, List.size_toArray, List.length_cons, List.length_nil, Nat.reduceAdd, Nat.reduceSub, Array.replicate_succ, Array.replicate_zero, List.push_toArray, List.append_toArray, List.nil_append, List.cons_append]
  have hwf : ∀ f, Fence.wide.fn f := fun _ => trivial
  have hwd : Fence.wide.depth.isSome = false := rfl
  have b1 := cell_of_row1 hR.pbox
  have b2 := cell_of_row1 hR.lbox
  have b3 := cell_of_row1 hR.bbox
  have HR := Lib.hid hR; have HL := Lib.hid hL; have HJ := Lib.hid h0; have HF := Lib.hid hf
  obtain ⟨F, hp, hr⟩ := hR.pool
  have CK := Lib.hid (checkList_any hp l)
  unfold allL at HL ⊢
  rcases listE_cases m l with ⟨e, _⟩ | ⟨e, k, rfl, hk⟩
  · rw [e] at CK HL ⊢
    rw [if_neg (by decide)]
    clear hR hL h0 hf hp hr e
    gi_wp2_with (gi_at_call 41; refine (callsIn_wide.2 CK.out).mono ?_; rintro e w1 ⟨rfl, rfl⟩)
    refine bodyPost_ret (results_none rfl _ _ _) rfl ?_
    exact iter_done HJ.out
  · rw [e] at CK HL ⊢
    rw [if_pos rfl, toNat_cast] at HL ⊢
    have CE := Lib.hid (end_any hp k hk (!back))
    rw [ord_start hr hk back] at CE
    obtain ⟨y, hy⟩ : ∃ y, y = hd (ordL of k back) := ⟨_, rfl⟩
    rw [← hy] at CE
    have HY := Lib.hid hy
    clear hy
    clear hR hL h0 hf hp hr e
    gi_wp2_with (first
      | (gi_at_call 41; refine (callsIn_wide.2 CK.out).mono ?_; rintro e w1 ⟨rfl, rfl⟩)
      | (gi_at_call 59; refine (callsIn_wide.2 CE.out).mono ?_; rintro e w1 ⟨rfl, rfl⟩))
    gi_loopg [5] (ordL of k back).length (fun n1 i wr => ∃ pre rest : List Nat, rest.length = n1 ∧ i = .int .i64 (hd rest) ∧ ordL of k back = pre ++ rest ∧ J pre wr ∧ AReads S D K B n m Dk v of (k : Int) back wr)
    case atStart => exact ⟨[], _, rfl, by rw [HY.out], rfl, HJ.out, HR.out⟩
    case round =>
      clear b1 b2 b3 HJ HR CK CE
      obtain ⟨pre, rest, hlen, rfl, hT, hj, hrd⟩ := hrel
      obtain ⟨wx, rfl⟩ : ∃ wx : World, wx = wr := ⟨_, rfl⟩
      have HJ := Lib.hid hj; have HR := Lib.hid hrd; have HT := Lib.hid hT
      have b1 := cell_of_row1 hrd.pbox
      have b2 := cell_of_row1 hrd.lbox
      have b3 := cell_of_row1 hrd.bbox
      obtain ⟨F, hp, hr⟩ := hrd.pool
      clear hj hrd
      cases rest with
      | nil =>
        obtain rfl : gk = 0 := by simpa using hlen.symm
        have t1 : ((-1 : Int) != -1) = false := rfl
        clear hp hr hT
        rw [show hd [] = -1 from rfl]
        gi_wp2
        refine wpIn_wide.2 ?_
        go_quiet (fail)
        gi_wp2
        go_end0
        exact iter_done (by rw [HT.out, List.append_nil]; exact HL.out.grow HJ.out (drewB _ _ _))
      | cons x rest =>
        obtain ⟨n', rfl⟩ : ∃ n', gk = n' + 1 := ⟨rest.length, by simpa using hlen.symm⟩
        obtain ⟨hs, hlst, hxn⟩ := ord_step hr hk hT
        obtain ⟨c0, c1, c2, c3, c4, c5, c6⟩ := hp.cells
        obtain ⟨y0, _⟩ := hp.rl.get hxn
        obtain ⟨z0, _⟩ := hp.rv.get hxn
        rw [hlst] at y0
        have CS := Lib.hid (step_any hp x hxn back)
        rw [hs] at CS
        have x0 : (0 : Int) ≤ x := by omega
        have x1 : (x : Int) < n := by omega
        have t1 : ((x : Int) != -1) = true := bne_iff_ne.2 (by omega)
        have t2 : ((k : Int) == (k : Int)) = true := beq_self_eq_true _
        have HLEN := Lib.hid hlen
        have hpl : pre.length < (ordL of k back).length := by rw [hT]; simp
        have HPL := Lib.hid hpl
        clear hp hr hT hs hlst hlen hpl
        rw [show hd (x :: rest) = (x : Int) from rfl]
        gi_wp2
        refine wpIn_wide.2 ?_
        go_quiet (fail)
        have hb := drewB wx.heap.size nq wx
        generalize wx.drewN nq = wy at hb ⊢
        have HR2 := Lib.hid (HR.out.later HF.out (BelowS.of (hb.mono HR.out.dl)))
        have HJ2 := Lib.hid (HL.out.grow HJ.out hb)
        clear b1 b2 b3 c0 c1 c2 c3 c4 c5 c6 y0 z0 CS HR HJ hb
        have b1 := cell_of_row1 HR2.out.pbox
        have b2 := cell_of_row1 HR2.out.lbox
        have b3 := cell_of_row1 HR2.out.bbox
        obtain ⟨G, hp, hr⟩ := HR2.out.pool
        obtain ⟨hs, hlst, _⟩ := ord_step hr hk HT.out
        obtain ⟨c0, c1, c2, c3, c4, c5, c6⟩ := hp.cells
        obtain ⟨z0, _⟩ := hp.rv.get hxn
        have CS := Lib.hid (step_any hp x hxn back)
        rw [hs] at CS
        clear hp hr hs hlst
        have hyl := HL.out.yield pre x wy HJ2.out HPL.out
        unfold slotV at hyl
        obtain ⟨fn2, tmps2, assign2, body2, hyy, hY⟩ := yield_bool hyl
        clear hyl
        gi_wp2_with (first
          | (gi_at_call 60; refine (callsIn_wide.2 CS.out).mono ?_; rintro e w1 ⟨rfl, rfl⟩))
        refine hY.mono ?_
        clear hyy hY
        rintro e w2 ⟨yb, rfl, hpost⟩
        rcases hpost with ⟨rfl, hj2, hk2⟩ | ⟨rfl, hjx⟩
        · have HR3 := Lib.hid (HR2.out.later HF.out hk2)
          have HJ3 := Lib.hid hj2
          clear hj2 hk2 b1 b2 b3 c0 c1 c2 c3 c4 c5 c6 z0 CS HR2 HJ2
          gi_wp2
          gi_roundg n'
          case measure => omega
          case rel => exact ⟨pre ++ [x], rest, by have := HLEN.out; simpa using this, by go_num, by rw [HT.out]; simp, HJ3.out, HR3.out⟩
        · have HJX := Lib.hid hjx
          clear hjx
          gi_wp2
          refine bodyPost_ret (results_none rfl _ _ _) rfl ?_
          exact iter_stop _ (by rw [HT.out]; exact ⟨rest, by simp⟩) HJX.out
/-- The iterator, as a loop that ranges over it wants it. -/
theorem all_stops (q : Nat) (S : Nat → Prop) (D K B n m : Nat) (Dk : LkB) (v : Nat → Int) (of : Nat → List Nat) (l : Int) (back : Bool) (hf : AFree S D K B Dk) (w : World) (hR : AReads S D K B n m Dk v of l back w) :
    SeqStopsK Fence.wide q Try.prog 58 #[.pointer (some ⟨K, 0, none⟩), .pointer (some ⟨K + 1, 0, none⟩), .pointer (some ⟨K + 1 + 1, 0, none⟩)] (slotV v) (BelowS S D) (fun ys => ys = allL m of l back) (fun ys => ys <+: allL m of l back) (allL m of l back).length w := by
  intro ly J Jx W hW hJ hJx hY h0
  refine (all1_in q S D K B n m ly Dk v of l back hf J Jx W ⟨hJ, hJx, hY⟩ (hR.later hf (BelowS.of (hW.mono hR.dl))) h0).mono ?_
  rintro e W' ⟨hv, ⟨ys, hys, hj⟩ | ⟨pre, hpre, hj⟩⟩
  · exact ⟨hv, .inl ⟨ys, hys, hj⟩⟩
  · exact ⟨hv, .inr ⟨pre, hpre, hj⟩⟩
end Go.Proofs.Ytmelcohfjonjfaa
