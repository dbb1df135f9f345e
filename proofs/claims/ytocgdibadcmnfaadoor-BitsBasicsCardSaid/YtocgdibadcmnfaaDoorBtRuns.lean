/- bits: runs, the iterator over the runs. -/
import Derived.Test.YtocgdibadcmnfaaDoorBtSet
import Derived.RangeFuncNested
import Derived.RangeFuncBound
import Derived.RangeFuncCalls
import Derived.RangeFuncLeaves
import Derived.Shelf.Abstract
import Derived.OwnWalkIn
import Derived.TacticsInMore
import Derived.LoopNIn
import Derived.LoopIn
import Derived.Sort.QuietIn
import Derived.Sort.LoopGhostIn
import Derived.Sort.BigQuietIn
namespace Go.Proofs.YtocgdibadcmnfaaDoor
open Go.RowKit Go.Shelf
attribute [local go_sem] Oper.semAt_some

/-- The runs from a on. -/
def runsF (f : Nat → Bool) (on : Bool) (m : Nat) : Nat → Nat → List (Nat × Nat)
  | 0, _ => []
  | k + 1, a => if nextN (fromB f on a) m < m then (nextN (fromB f on a) m, nextN (fromB f (!on) (nextN (fromB f on a) m)) m) :: runsF f on m k (nextN (fromB f (!on) (nextN (fromB f on a) m)) m) else []
def runsL (f : Nat → Bool) (on : Bool) (m a : Nat) : List (Nat × Nat) := runsF f on m (m + 1) a
theorem nextN_le (p : Nat → Bool) (m : Nat) : nextN p m ≤ m := by
  rcases nextN_cases p m with h | h
  · omega
  · omega
theorem nextN_from {f : Nat → Bool} {on : Bool} {a m : Nat} (h : nextN (fromB f on a) m < m) : a ≤ nextN (fromB f on a) m ∧ f (nextN (fromB f on a) m) = on := by
  rcases nextN_cases (fromB f on a) m with ⟨_, h2, _⟩ | ⟨h2, _⟩
  · unfold fromB onB at h2
    simp only [Bool.and_eq_true, decide_eq_true_eq, beq_iff_eq] at h2
    exact h2
  · omega
theorem run_good {f : Nat → Bool} {on : Bool} {s m : Nat} (hs : s < m) (h : f s = on) : s < nextN (fromB f (!on) s) m ∧ nextN (fromB f (!on) s) m ≤ m := by
  refine ⟨?_, nextN_le _ _⟩
  by_cases ht : nextN (fromB f (!on) s) m < m
  · obtain ⟨h1, h2⟩ := nextN_from ht
    have : nextN (fromB f (!on) s) m ≠ s := fun e => by rw [e, h] at h2; cases on <;> cases h2
    omega
  · have := nextN_le (fromB f (!on) s) m
    omega
/-- A run that is yielded. -/
abbrev GRun (m : Nat) := { x : Nat × Nat // x.1 < x.2 ∧ x.2 ≤ m }
def runV (x : Nat × Nat) : Value := .agg #[.int .i64 (x.1 : Int), .int .i64 (x.2 : Int)]

/-- All blocks below D but those of S are as they were. -/
structure BelowS (S : Nat → Prop) (D : Nat) (w w' : World) : Prop where
  os : w'.os = w.os
  tape : w'.tape = w.tape
  output : w'.output = w.output
  size : w.heap.size ≤ w'.heap.size
  block : ∀ k, k < D → ¬ S k → w'.heap[k]? = w.heap[k]?
theorem BelowS.refl (S : Nat → Prop) (D : Nat) (w : World) : BelowS S D w w := ⟨rfl, rfl, rfl, Nat.le_refl _, fun _ _ _ => rfl⟩
theorem BelowS.trans {S : Nat → Prop} {D : Nat} {a b c : World} (h : BelowS S D a b) (k : BelowS S D b c) : BelowS S D a c :=
  ⟨k.os.trans h.os, k.tape.trans h.tape, k.output.trans h.output, Nat.le_trans h.size k.size, fun i hi hn => (k.block i hi hn).trans (h.block i hi hn)⟩
theorem BelowS.of {S : Nat → Prop} {D : Nat} {a b : World} (h : Below D a b) : BelowS S D a b := ⟨h.os, h.tape, h.output, h.size, fun k hk _ => h.block k hk⟩
theorem grownBy_of_below {w w' : World} (h : Below w.heap.size w w') (row : Option Nat) : w.grownBy w' row := ⟨h.os, h.tape, h.output, h.size, fun k hk _ => h.block k hk⟩

/-- What the iterator reads: the library's table, the boxes, the words. -/
structure RReads (S : Nat → Prop) (D B m a : Nat) (on : Bool) (p : Option Addr) (cap : Nat) (ws : List Nat) (W : World) : Prop where
  env : BEnv W
  dl : D ≤ W.heap.size
  box : W.heap[B]? = some (.cells #[.int .i64 (m : Int), .slice p ws.length cap] 24 (0, 0))
  fbox : W.heap[B + 1]? = some (.cells #[.int .i64 (a : Int)] 3 (0, 0))
  obox : W.heap[B + 2]? = some (.cells #[.bool on] 4 (0, 0))
  words : WordsAt W p ws
/-- The blocks that it reads are none of those that may be written. -/
structure RFree (S : Nat → Prop) (D B : Nat) (p : Option Addr) (ws : List Nat) : Prop where
  b0 : B + 2 < D
  n0 : ¬ S B
  n1 : ¬ S (B + 1)
  n2 : ¬ S (B + 2)
  tb : 0 < D ∧ ¬ S 0
  wd : 0 < ws.length → ∀ g off, p = some ⟨g, off, none⟩ → g < D ∧ ¬ S g
theorem RReads.later {S : Nat → Prop} {D B m a : Nat} {on : Bool} {p : Option Addr} {cap : Nat} {ws : List Nat} {W W' : World} (h : RReads S D B m a on p cap ws W) (hf : RFree S D B p ws) (hb : BelowS S D W W') : RReads S D B m a on p cap ws W' := by
  have h0 := hf.b0
  refine ⟨⟨Nat.lt_of_lt_of_le h.env.size hb.size, fun j hj => (World.cell?_of_block (w := W) (hb.block _ hf.tb.1 hf.tb.2)).trans (h.env.tab j hj)⟩, Nat.le_trans h.dl hb.size,
    (hb.block _ (by omega) hf.n0).trans h.box, (hb.block _ (by omega) hf.n1).trans h.fbox, (hb.block _ (by omega) hf.n2).trans h.obox, h.words.len, h.words.lt, fun hl => ?_⟩
  obtain ⟨g, off, e, hg, hc⟩ := h.words.at_ hl
  obtain ⟨h1, h2⟩ := hf.wd hl g off e
  exact ⟨g, off, e, Nat.lt_of_lt_of_le hg hb.size, fun j hj => (World.cell?_of_block (w := W) (hb.block g h1 h2)).trans (hc j hj)⟩

theorem runs_any (n : Int) (p : Option Addr) (len cap : Nat) (a : Int) (on : Bool) (w : World) : Calls Tryd.prog 64 #[.agg #[.int .i64 n, .slice p len cap], .int .i64 a, .bool on] w fun e w' =>
    e = .returned (.func (.func 74) #[] #[.pointer (some ⟨w.heap.size, 0, none⟩), .pointer (some ⟨w.heap.size + 1, 0, none⟩), .pointer (some ⟨w.heap.size + 1 + 1, 0, none⟩)]) ∧
    w' = ((w.alloc (.cells #[.int .i64 n, .slice p len cap] 24)).alloc (.cells #[.int .i64 a] 3)).alloc (.cells #[.bool on] 4) := by
  go_enter Tryd.func64, Tryd.ntmps64
  go_wp2
  go_ret
  exact ⟨rfl, rfl⟩

/-- What an iterator's two invariants are at the loop that runs it. -/
structure Loops (n : Nat) (S : Nat → Prop) (D : Nat) (l m N : Nat) (J Jx : List (Nat × Nat) → World → Prop) (B : Nat) : Prop where
  jb : AbidesFrom B J
  jx : AbidesFrom B Jx
  yield : ∀ pre x W1, x.1 < x.2 ∧ x.2 ≤ m → J pre W1 → pre.length < N → YieldAt Fence.wide n Tryd.prog l #[runV x] W1 fun e W' =>
      (e = .returned (.bool true) ∧ J (pre ++ [x]) W' ∧ BelowS S D W1 W') ∨ (e = .returned (.bool false) ∧ Jx (pre ++ [x]) W')
theorem Loops.grow {n : Nat} {S : Nat → Prop} {D l m N : Nat} {J Jx : List (Nat × Nat) → World → Prop} {B : Nat} (h : Loops n S D l m N J Jx B) {pre : List (Nat × Nat)} {W W' : World} (hj : J pre W) (hb : Below W.heap.size W W') : J pre W' :=
  h.jb pre W W' none hj (grownBy_of_below hb none) (fun r e => by cases e)
theorem Loops.at {n : Nat} {S : Nat → Prop} {D l m N : Nat} {J Jx : List (Nat × Nat) → World → Prop} {B : Nat} (h : Loops n S D l m N J Jx B) {pre : List (Nat × Nat)} {W1 : World} (hj : J pre W1) (hN : pre.length < N) (s t : Nat) (hg : s < t ∧ t ≤ m) :
    YieldAt Fence.wide n Tryd.prog l #[.agg #[.int .i64 (s : Int), .int .i64 (t : Int)]] W1 fun e W' =>
      (e = .returned (.bool true) ∧ J (pre ++ [(s, t)]) W' ∧ BelowS S D W1 W') ∨ (e = .returned (.bool false) ∧ Jx (pre ++ [(s, t)]) W') := h.yield pre (s, t) W1 hg hj hN
def IterPost (L : List (Nat × Nat)) (J Jx : List (Nat × Nat) → World → Prop) (e : Ending) (W' : World) : Prop := (∃ v, e = .returned v) ∧ ((∃ ys, ys = L ∧ J ys W') ∨ (∃ pre, pre <+: L ∧ Jx pre W'))
theorem iter_done {L : List (Nat × Nat)} {J Jx : List (Nat × Nat) → World → Prop} {v : Value} {W' : World} (h : J L W') : IterPost L J Jx (.returned v) W' := ⟨⟨_, rfl⟩, .inl ⟨L, rfl, h⟩⟩
theorem iter_stop {L : List (Nat × Nat)} {J Jx : List (Nat × Nat) → World → Prop} {v : Value} {W' : World} (pre : List (Nat × Nat)) (hp : pre <+: L) (h : Jx pre W') : IterPost L J Jx (.returned v) W' := ⟨⟨_, rfl⟩, .inr ⟨pre, hp, h⟩⟩
theorem cell_of_row1 {W : World} {B : Nat} {v : Value} {t : TypeId} (h : W.heap[B]? = some (.cells #[v] t (0, 0))) : W.cell? ⟨B, 0, none⟩ = some v := row_cell h rfl

set_option maxRecDepth 100000 in
set_option maxHeartbeats 2000000 in
theorem runs1_in (n : Nat) (S : Nat → Prop) (D B m a cap ly : Nat) (on : Bool) (p : Option Addr) (ws : List Nat) (hv : Valid m ws) (ha : a ≤ m) (hf : RFree S D B p ws)
    (J Jx : List (Nat × Nat) → World → Prop) (W : World) (hL : Loops (n - 1) S D ly m (runsL (bitN ws) on m a).length J Jx W.heap.size) (hR : RReads S D B m a on p cap ws W) (h0 : J [] W) :
    CallsIn Fence.wide n Tryd.prog 74 #[.func (.yield ly) #[] #[], .pointer (some ⟨B, 0, none⟩), .pointer (some ⟨B + 1, 0, none⟩), .pointer (some ⟨B + 1 + 1, 0, none⟩)] W (IterPost (runsL (bitN ws) on m a) J Jx) := by
  refine callsIn_of_wp Tryd.func74 rfl trivial ?_ rfl
  simp only [Tryd.ntmps74, List.size_toArray, List.length_cons, List.length_nil, Nat.reduceAdd, Nat.reduceSub, Array.replicate_succ, Array.replicate_zero, List.push_toArray, List.append_toArray, List.nil_append, List.cons_append]
  have cn := fun (i : Nat) (o : Bool) (hi : i ≤ m) (W : World) (hW : RReads S D B m a on p cap ws W) => next_any m p cap ws i o W hW.words hv hi hW.env
  unfold NatPost at cn
  have b0 := row_cell (i := 0) (v := .int .i64 (m : Int)) hR.box rfl
  have b1 := row_cell (i := 1) (v := .slice p ws.length cap) hR.box rfl
  have b2 := cell_of_row1 hR.fbox
  have b3 := cell_of_row1 hR.obox
  have CN := Lib.hid cn; have HR := Lib.hid hR; have HL := Lib.hid hL; have HJ := Lib.hid h0; have HF := Lib.hid hf
  have hm4 := hv.le
  clear cn hR hL h0 hf hv
  have hwf : ∀ f, Fence.wide.fn f := fun _ => trivial
  have hwd : Fence.wide.depth.isSome = false := rfl
  gi_wp2_with (gi_at_call 61; refine (callsIn_wide.2 (CN.out a on ha _ HR.out)).mono ?_; rintro e w1 ⟨rfl, hb⟩; have HR1 := Lib.hid (HR.out.later HF.out (BelowS.of (hb.mono HR.out.dl))); have HJ1 := Lib.hid (HL.out.grow HJ.out hb); clear hb HJ HR)
  gi_loopw [5] (fun v wr => ∃ (s k a' : Nat) (pre : List (Nat × Nat)), v = .int .i64 (s : Int) ∧ s = nextN (fromB (bitN ws) on a') m ∧ a' ≤ m ∧ m + 1 ≤ k + a' ∧ J pre wr ∧ RReads S D B m a on p cap ws wr ∧ runsL (bitN ws) on m a = pre ++ runsF (bitN ws) on m k a') (fun v _ => m - (intOf v).toNat)
  case atStart => exact ⟨_, m + 1, a, [], rfl, rfl, ha, by omega, HJ1.out, HR1.out, rfl⟩
  case round =>
    clear b0 b1 b2 b3 HJ1 HR1
    obtain ⟨s, k, a', pre, rfl, hs, ha', hk, hj, hr, hT⟩ := hrel
    obtain ⟨wx, rfl⟩ : ∃ wx : World, wx = wr := ⟨_, rfl⟩
    have b0 := row_cell (i := 0) (v := .int .i64 (m : Int)) hr.box rfl
    have b1 := row_cell (i := 1) (v := .slice p ws.length cap) hr.box rfl
    have b3 := cell_of_row1 hr.obox
    have HJ := Lib.hid hj; have HR := Lib.hid hr; have HT := Lib.hid hT
    clear hj hr hT
    by_cases hlt : s < m
    · have hsf := nextN_from (f := bitN ws) (on := on) (a := a') (m := m) (by rw [← hs]; exact hlt)
      rw [← hs] at hsf
      have hg := run_good hlt hsf.2
      have has := hsf.1
      obtain ⟨k', rfl⟩ : ∃ k', k = k' + 1 := ⟨k - 1, by omega⟩
      have hun : runsF (bitN ws) on m (k' + 1) a' = (s, nextN (fromB (bitN ws) (!on) s) m) :: runsF (bitN ws) on m k' (nextN (fromB (bitN ws) (!on) s) m) := by
        rw [runsF, if_pos (by rw [← hs]; exact hlt), ← hs]
      have cn1 := fun W hW => CN.out s (!on) (by omega) W hW
      generalize nextN (fromB (bitN ws) (!on) s) m = t at hg hun cn1
      have cn2 := fun W hW => CN.out t on (by omega) W hW
      have hlen : pre.length < (runsL (bitN ws) on m a).length := by rw [HT.out, hun]; simp
      have HLEN := Lib.hid hlen; have HUN := Lib.hid hun; have CN1 := Lib.hid cn1; have CN2 := Lib.hid cn2; have HS := Lib.hid hs
      have il : (s : Int) < m := by omega
      clear hlen hun cn1 cn2 hs hsf
      gi_wp2_with (first
        | (gi_at_call 61; refine (callsIn_wide.2 (CN1.out _ HR.out)).mono ?_; rintro e w1 ⟨rfl, hb⟩; have HR1 := Lib.hid (HR.out.later HF.out (BelowS.of (hb.mono HR.out.dl))); have HJ1 := Lib.hid (HL.out.grow HJ.out hb); clear hb CN1; obtain ⟨fn2, tmps2, assign2, body2, hy, hY⟩ := HL.out.at HJ1.out HLEN.out s t hg))
      refine hY.mono ?_
      clear hy
      rintro e w2 (⟨rfl, hj, hkk⟩ | ⟨rfl, hjx⟩)
      · have HR2 := Lib.hid (HR1.out.later HF.out hkk)
        have HJ2 := Lib.hid hj
        clear hj hkk hY HR1 HJ1 b0 b1 b3 HR HJ
        have b0 := row_cell (i := 0) (v := .int .i64 (m : Int)) HR2.out.box rfl
        have b1 := row_cell (i := 1) (v := .slice p ws.length cap) HR2.out.box rfl
        have b3 := cell_of_row1 HR2.out.obox
        gi_wp2_with (gi_at_call 61; refine (callsIn_wide.2 (CN2.out _ HR2.out)).mono ?_; rintro e w3 ⟨rfl, hb⟩; have HR3 := Lib.hid (HR2.out.later HF.out (BelowS.of (hb.mono HR2.out.dl))); have HJ3 := Lib.hid (HL.out.grow HJ2.out hb); clear hb CN2)
        have hge : t ≤ nextN (fromB (bitN ws) on t) m := by
          by_cases hq : nextN (fromB (bitN ws) on t) m < m
          · exact (nextN_from hq).1
          · omega
        refine ⟨⟨_, k', t, _, rfl, rfl, by omega, by omega, HJ3.out, HR3.out, ?_⟩, by simp [intOf]; omega⟩
        rw [HT.out, HUN.out]; simp
      · gi_wp2
        refine bodyPost_ret (results_none rfl _ _ _) rfl ?_
        exact iter_stop _ (by rw [HT.out, HUN.out]; simp) hjx
    · have hun : runsF (bitN ws) on m k a' = [] := by
        cases k with
        | zero => rfl
        | succ k => rw [runsF, if_neg (by rw [← hs]; exact hlt)]
      have HU := Lib.hid hun
      have il : ¬ (s : Int) < m := by omega
      clear hun hs
      gi_wp2
      go_end0
      exact iter_done (by rw [HT.out, HU.out, List.append_nil]; exact HJ.out)
theorem runs_stops (n : Nat) (S : Nat → Prop) (D B m a cap : Nat) (on : Bool) (p : Option Addr) (ws : List Nat) (hv : Valid m ws) (ha : a ≤ m) (hf : RFree S D B p ws)
    (w : World) (hR : RReads S D B m a on p cap ws w) :
    SeqStopsK Fence.wide n Tryd.prog 74 #[.pointer (some ⟨B, 0, none⟩), .pointer (some ⟨B + 1, 0, none⟩), .pointer (some ⟨B + 1 + 1, 0, none⟩)] (fun x : GRun m => #[runV x.1]) (BelowS S D) (fun ys => ys.map (·.1) = runsL (bitN ws) on m a) (fun ys => ys.map (·.1) <+: runsL (bitN ws) on m a) (runsL (bitN ws) on m a).length w := by
  intro ly J Jx W hW hJ hJx hY h0
  refine (runs1_in n S D B m a cap ly on p ws hv ha hf (fun pre W => ∃ p : List (GRun m), p.map (·.1) = pre ∧ J p W) (fun pre W => ∃ p : List (GRun m), p.map (·.1) = pre ∧ Jx p W) W ?_ (hR.later hf (BelowS.of (hW.mono hR.dl))) ⟨[], rfl, h0⟩).mono ?_
  · refine ⟨fun s A B row ⟨p, hp, hj⟩ hg hr => ⟨p, hp, hJ p A B row hj hg hr⟩, fun s A B row ⟨p, hp, hj⟩ hg hr => ⟨p, hp, hJx p A B row hj hg hr⟩, ?_⟩
    rintro pre x W1 hx ⟨p, rfl, hj⟩ hlen
    refine (hY p ⟨x, hx⟩ W1 hj (by simpa using hlen)).mono ?_
    rintro e W' (⟨he, hj', hk⟩ | ⟨he, hjx⟩)
    · exact .inl ⟨he, ⟨p ++ [⟨x, hx⟩], by simp, hj'⟩, hk⟩
    · exact .inr ⟨he, ⟨p ++ [⟨x, hx⟩], by simp, hjx⟩⟩
  · rintro e W' ⟨hv, ⟨ys, hys, p, hp, hj⟩ | ⟨pre, hpre, p, hp, hj⟩⟩
    · exact ⟨hv, .inl ⟨p, by show p.map (·.1) = _; rw [hp, hys], hj⟩⟩
    · exact ⟨hv, .inr ⟨p, by show p.map (·.1) <+: _; rw [hp]; exact hpre, hj⟩⟩
end Go.Proofs.YtocgdibadcmnfaaDoor
