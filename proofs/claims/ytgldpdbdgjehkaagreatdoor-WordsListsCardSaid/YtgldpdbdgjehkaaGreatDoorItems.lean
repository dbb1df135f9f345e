/- items: the iterator over the items with which a list's expressions can begin. -/
import Derived.Test.YtgldpdbdgjehkaaGreatDoorParse
import Derived.RangeFuncNested
import Derived.RangeFuncBound
import Derived.RangeFuncCalls
import Derived.RangeFuncLeaves
import Derived.Shelf.Abstract
import Derived.OwnWalkIn
import Derived.TacticsInMore
import Derived.LoopNIn
import Derived.LoopIn
import Derived.Sort.QuietIn
import Derived.Sort.LoopGhostIn
import Derived.Sort.BigQuietIn
import Derived.Lib.ItoaLen
namespace Go.Proofs.YtgldpdbdgjehkaaGreatDoor
open Go.RowKit Go.Shelf
attribute [local go_sem] Oper.semAt_some

/-- An item: its text; how many numbers it is written for. -/
structure It where
  text : List UInt8
  count : Nat
/-- What is known of each item. -/
def ItGood (x : It) : Prop := 1 ≤ x.count ∧ x.count ≤ 500 ∧ x.text.length ≤ 50 ∧ x.text ≠ []
def itV (x : It) : Value := .agg #[.string ⟨x.text.toArray⟩, .int .i64 x.count]
def at0 (l : List Int) (k : Nat) : Int := l[k]?.getD 0
/-- The items N-M from the n-th number on. -/
def upsL (l : List Int) : Nat → Nat → List It
  | 0, _ => []
  | f + 1, n => if n ≤ l.length ∧ at0 l (n - 1) = at0 l 0 + n - 1 then ⟨Lib.itoa (at0 l 0) ++ [45] ++ Lib.itoa (at0 l (n - 1)), n⟩ :: upsL l f (n + 1) else []
/-- The items KxN from the n-th number on. -/
def samesL (l : List Int) : Nat → Nat → List It
  | 0, _ => []
  | f + 1, n => if n ≤ l.length ∧ at0 l (n - 1) = at0 l 0 then ⟨Lib.itoa n ++ [120] ++ Lib.itoa (at0 l 0), n⟩ :: samesL l f (n + 1) else []
def itemsL (l : List Int) : List It := ⟨Lib.itoa (at0 l 0), 1⟩ :: upsL l l.length 2 ++ samesL l l.length 2

/-- All blocks below D but R are as they were. -/
structure BelowX (R D : Nat) (w w' : World) : Prop where
  os : w'.os = w.os
  tape : w'.tape = w.tape
  output : w'.output = w.output
  size : w.heap.size ≤ w'.heap.size
  block : ∀ k, k < D → k ≠ R → w'.heap[k]? = w.heap[k]?
theorem BelowX.refl (R D : Nat) (w : World) : BelowX R D w w := ⟨rfl, rfl, rfl, Nat.le_refl _, fun _ _ _ => rfl⟩
theorem BelowX.trans {R D : Nat} {a b c : World} (h : BelowX R D a b) (k : BelowX R D b c) : BelowX R D a c :=
  ⟨k.os.trans h.os, k.tape.trans h.tape, k.output.trans h.output, Nat.le_trans h.size k.size, fun i hi hn => (k.block i hi hn).trans (h.block i hi hn)⟩
theorem BelowX.of {R D : Nat} {a b : World} (h : Below D a b) : BelowX R D a b := ⟨h.os, h.tape, h.output, h.size, fun k hk _ => h.block k hk⟩
theorem grownBy_of_below {w w' : World} (h : Below w.heap.size w w') (row : Option Nat) : w.grownBy w' row := ⟨h.os, h.tape, h.output, h.size, fun k hk _ => h.block k hk⟩

/-- What the iterator reads: the library's tables; the box of its slice; the numbers. -/
structure Reads (R D Bn g off : Nat) (l : List Int) (cap : Nat) (W : World) : Prop where
  env : Env W
  dl : D ≤ W.heap.size
  box : W.heap[Bn]? = some (.cells #[.slice (some ⟨g, off, none⟩) l.length cap] 31 (0, 0))
  cells : ∀ k, k < l.length → W.cell? ⟨g, off + k, none⟩ = some (.int .i64 (at0 l k))
theorem Env.belowX {R D : Nat} {w w' : World} (h : Env w) (h9 : 9 ≤ R) (hD : 9 ≤ D) (hb : BelowX R D w w') : Env w' := by
  have hb9 : Below 9 w w' := ⟨hb.os, hb.tape, hb.output, hb.size, fun k hk => hb.block k (by omega) (by omega)⟩
  refine ⟨Nat.le_trans h.size hb.size, ?_, ?_, ?_⟩
  · obtain ⟨m, hm⟩ := h.maxlen
    exact ⟨m, by rw [hb9.cell (by show 1 < 9; omega)]; exact hm⟩
  · exact var?_below hb9 (g := 4) (by kernel_rfl) (by omega) h.pow10
  · obtain ⟨tp, p, he⟩ := h.errRange
    exact ⟨tp, p, var?_below hb9 (g := 3) (by kernel_rfl) (by omega) he⟩
theorem Reads.later {R D Bn g off : Nat} {l : List Int} {cap : Nat} {W W' : World} (h : Reads R D Bn g off l cap W) (h9 : 9 ≤ R) (hD : 9 ≤ D) (hBn : Bn < D ∧ Bn ≠ R) (hg : g < D ∧ g ≠ R) (hb : BelowX R D W W') : Reads R D Bn g off l cap W' :=
  ⟨h.env.belowX h9 hD hb, Nat.le_trans h.dl hb.size, (hb.block _ hBn.1 hBn.2).trans h.box, fun k hk => (World.cell?_of_block (w := W) (hb.block g hg.1 hg.2)).trans (h.cells k hk)⟩

theorem decDigits_ne (u : Nat) : Lib.decDigits u ≠ [] := by rw [Lib.decDigits]; split <;> simp
theorem itoa_ne (n : Int) : Lib.itoa n ≠ [] := by unfold Lib.itoa; split; simp; exact decDigits_ne _
theorem items_any (a : Option Addr) (n c : Nat) (w : World) : Calls Tryz.prog 78 #[.slice a n c] w fun e w' => e = .returned (.func (.func 103) #[] #[.pointer (some ⟨w.heap.size, 0, none⟩)]) ∧ w' = w.alloc (.cells #[.slice a n c] 31) := by
  go_enter Tryz.func78, Tryz.ntmps78
  go_wp2
  go_ret
  exact ⟨rfl, rfl⟩

/-- What an iterator's two invariants are at the loop that runs it. -/
structure Loops (n : Nat) (R D : Nat) (l : Nat) (N : Nat) (J Jx : List It → World → Prop) (B : Nat) : Prop where
  jb : AbidesFrom B J
  jx : AbidesFrom B Jx
  yield : ∀ pre x W1, ItGood x → J pre W1 → pre.length < N → YieldAt Fence.wide n Tryz.prog l #[itV x] W1 fun e W' =>
      (e = .returned (.bool true) ∧ J (pre ++ [x]) W' ∧ BelowX R D W1 W') ∨ (e = .returned (.bool false) ∧ Jx (pre ++ [x]) W')
theorem Loops.grow {n R D l N : Nat} {J Jx : List It → World → Prop} {B : Nat} (h : Loops n R D l N J Jx B) {pre : List It} {W W' : World} (hj : J pre W) (hb : Below W.heap.size W W') : J pre W' :=
  h.jb pre W W' none hj (grownBy_of_below hb none) (fun r e => by cases e)

theorem Loops.at {n R D l N : Nat} {J Jx : List It → World → Prop} {B : Nat} (h : Loops n R D l N J Jx B) {pre : List It} {W1 : World} (hj : J pre W1) (hN : pre.length < N) (t' : ByteArray) (t : List UInt8) (ht : t' = ⟨t.toArray⟩) (c : Int) (k : Nat) (hc : c = k) (hg : ItGood ⟨t, k⟩) :
    YieldAt Fence.wide n Tryz.prog l #[.agg #[.string t', .int .i64 c]] W1 fun e W' =>
      (e = .returned (.bool true) ∧ J (pre ++ [⟨t, k⟩]) W' ∧ BelowX R D W1 W') ∨ (e = .returned (.bool false) ∧ Jx (pre ++ [⟨t, k⟩]) W') := by
  subst hc; subst ht; exact h.yield pre ⟨t, k⟩ W1 hg hj hN
theorem cat3 (a b c : List UInt8) : (⟨a.toArray⟩ ++ ⟨b.toArray⟩ ++ ⟨c.toArray⟩ : ByteArray) = ⟨(a ++ b ++ c).toArray⟩ := ba_eq (by simp)
theorem upsL_yes (l : List Int) (f m : Nat) (h1 : m ≤ l.length) (h2 : at0 l (m - 1) = at0 l 0 + m - 1) : upsL l (f + 1) m = ⟨Lib.itoa (at0 l 0) ++ [45] ++ Lib.itoa (at0 l (m - 1)), m⟩ :: upsL l f (m + 1) := by rw [upsL, if_pos ⟨h1, h2⟩]
theorem upsL_no (l : List Int) (f m : Nat) (h : ¬ (m ≤ l.length ∧ at0 l (m - 1) = at0 l 0 + m - 1)) : upsL l f m = [] := by
  cases f with
  | zero => rfl
  | succ f => rw [upsL, if_neg h]
theorem samesL_yes (l : List Int) (f m : Nat) (h1 : m ≤ l.length) (h2 : at0 l (m - 1) = at0 l 0) : samesL l (f + 1) m = ⟨Lib.itoa m ++ [120] ++ Lib.itoa (at0 l 0), m⟩ :: samesL l f (m + 1) := by rw [samesL, if_pos ⟨h1, h2⟩]
theorem samesL_no (l : List Int) (f m : Nat) (h : ¬ (m ≤ l.length ∧ at0 l (m - 1) = at0 l 0)) : samesL l f m = [] := by
  cases f with
  | zero => rfl
  | succ f => rw [samesL, if_neg h]
set_option maxRecDepth 100000 in
set_option maxHeartbeats 2000000 in
theorem items1_in (n R D Bn g off cap ly : Nat) (l : List Int) (hl0 : 0 < l.length) (hl5 : l.length ≤ 500) (hrg : ∀ k, 0 ≤ at0 l k ∧ at0 l k ≤ 9999) (h9 : 9 ≤ R) (hD : 9 ≤ D) (hBn : Bn < D ∧ Bn ≠ R) (hg : g < D ∧ g ≠ R)
    (J Jx : List It → World → Prop) (W : World) (hL : Loops (n - 1) R D ly (itemsL l).length J Jx W.heap.size) (hR : Reads R D Bn g off l cap W) (h0 : J [] W) :
    CallsIn Fence.wide n Tryz.prog 103 #[.func (.yield ly) #[] #[], .pointer (some ⟨Bn, 0, none⟩)] W fun e W' => (∃ v, e = .returned v) ∧
      ((∃ ys, ys = itemsL l ∧ J ys W') ∨ (∃ pre, pre <+: itemsL l ∧ Jx pre W')) := by
  refine callsIn_of_wp Tryz.func103 rfl trivial ?_ rfl
  simp only [Tryz.ntmps103, List.size_toArray, List.length_cons, List.length_nil, Nat.reduceAdd, Nat.reduceSub, Array.replicate_succ, Array.replicate_zero, List.push_toArray, List.append_toArray, List.nil_append, List.cons_append]
  have b0 : W.cell? ⟨Bn, 0, none⟩ = some (.slice (some ⟨g, off, none⟩) l.length cap) := cell_of_one hR.box
  have d0 : W.cell? ⟨g, off, none⟩ = some (.int .i64 (at0 l 0)) := by simpa using hR.cells 0 hl0
  have cd := fun (m : Int) (h0 : 0 ≤ m) (h1 : m ≤ 99990) W hE => digits_any m (by omega) (by omega) W hE
  have CD := Lib.hid cd; have HR := Lib.hid hR; have HL := Lib.hid hL; have HRG := Lib.hid hrg; have HJ := Lib.hid h0
  clear cd hR hL hrg h0
  have hg0 : ItGood ⟨Lib.itoa (at0 l 0), 1⟩ := ⟨Nat.le_refl _, by show 1 ≤ 500; omega, by have := Lib.itoa_length_le (at0 l 0) (by have := HRG.out 0; omega) (by have := HRG.out 0; omega); show (Lib.itoa (at0 l 0)).length ≤ 50; omega, itoa_ne _⟩
  have HG0 := Lib.hid hg0; clear hg0
  have hwf : ∀ f, Fence.wide.fn f := fun _ => trivial
  have hwd : Fence.wide.depth.isSome = false := rfl
  gi_wp2_with (gi_at_call 21; refine (callsIn_wide.2 (CD.out _ (HRG.out 0).1 (Int.le_trans (HRG.out 0).2 (by decide)) _ HR.out.env)).mono ?_; rintro e w1 ⟨rfl, hb⟩; have HR1 := Lib.hid (HR.out.later h9 hD hBn hg (BelowX.of (hb.mono HR.out.dl))); have HJ1 := Lib.hid (HL.out.grow HJ.out hb); obtain ⟨fn, tmps, assign, body, hy, hY⟩ := HL.out.at HJ1.out (by simp [itemsL]) ⟨(Lib.itoa (at0 l 0)).toArray⟩ (Lib.itoa (at0 l 0)) rfl 1 1 rfl HG0.out; clear hb HJ HR)
  refine hY.mono ?_
  clear hy
  rintro e w2 (⟨rfl, hj, hk⟩ | ⟨rfl, hjx⟩)
  · have HR2 := Lib.hid (HR1.out.later h9 hD hBn hg hk)
    have HJ2 := Lib.hid hj
    clear hj hk hY HR1 HJ1 b0 d0
    gi_wp2
    gi_loopw [4] (fun v wr => ∃ (n f : Nat) (pre : List It), v = .int .i64 n ∧ 2 ≤ n ∧ n ≤ l.length + 1 ∧ f + n = l.length + 2 ∧ J pre wr ∧ Reads R D Bn g off l cap wr ∧ itemsL l = pre ++ upsL l f n ++ samesL l l.length 2) (fun v _ => l.length + 1 - (intOf v).toNat)
    case atStart => exact ⟨2, l.length, _, rfl, Nat.le_refl _, by omega, rfl, HJ2.out, HR2.out, by simp [itemsL]⟩
    case round =>
      obtain ⟨m, f, pre, rfl, hm2, hml, hf, hj, hr, hT⟩ := hrel
      obtain ⟨wx, rfl⟩ : ∃ wx : World, wx = wr := ⟨_, rfl⟩
      have b0 : wx.cell? ⟨Bn, 0, none⟩ = some (.slice (some ⟨g, off, none⟩) l.length cap) := cell_of_one hr.box
      have d0 : wx.cell? ⟨g, off, none⟩ = some (.int .i64 (at0 l 0)) := by simpa using hr.cells 0 hl0
      have HJ := Lib.hid hj; have HR := Lib.hid hr; have HT := Lib.hid hT
      clear hj hr hT HJ2 HR2
      have hv0 := HRG.out 0
      have hv1 := HRG.out (m - 1)
      have hs0 := Lib.itoa_length_le (at0 l 0) (by omega) (by omega)
      have hs1 := Lib.itoa_length_le (at0 l (m - 1)) (by omega) (by omega)
      by_cases hle : m ≤ l.length
      · have d1 : wx.cell? ⟨g, off + (m - 1), none⟩ = some (.int .i64 (at0 l (m - 1))) := HR.out.cells (m - 1) (by omega)
        have hle' : (m : Int) ≤ l.length := by omega
        by_cases heq : at0 l (m - 1) = at0 l 0 + m - 1
        · obtain ⟨f', rfl⟩ : ∃ f', f = f' + 1 := ⟨f - 1, by omega⟩
          have hst := upsL_yes l f' m hle heq
          have HST := Lib.hid hst; clear hst
          have HRC := Lib.hid (HR.out.cells)
          generalize at0 l 0 = x0 at *
          generalize hx1 : at0 l (m - 1) = x1 at *
          have HX1 := Lib.hid hx1; clear hx1
          have heq' : (x1 == x0 + (m : Int) - 1) = true := by simpa using heq
          clear heq
          gi_wp2
          gi_quiet (fail)
          have hbd : Below wx.heap.size wx (wx.drewN nq) := ⟨rfl, rfl, rfl, Nat.le_refl _, fun _ _ => rfl⟩
          have HJ := Lib.hid (HL.out.grow HJ.out hbd)
          have HR := Lib.hid (HR.out.later h9 hD hBn hg (BelowX.of (hbd.mono HR.out.dl)))
          clear hbd b0 d0 d1
          generalize wx.drewN nq = wy at HJ HR ⊢
          have b0 : wy.cell? ⟨Bn, 0, none⟩ = some (.slice (some ⟨g, off, none⟩) l.length cap) := cell_of_one HR.out.box
          have d1 : wy.cell? ⟨g, off + (m - 1), none⟩ = some (.int .i64 x1) := by rw [← HX1.out]; exact HR.out.cells (m - 1) (by omega)
          have hlt : pre.length < (itemsL l).length := by rw [HT.out, HST.out]; simp
          have HLT := Lib.hid hlt; clear hlt
          have hgd : ItGood ⟨Lib.itoa x0 ++ [45] ++ Lib.itoa x1, m⟩ := ⟨by show 1 ≤ m; omega, by show m ≤ 500; omega, by simp only [List.length_append, List.length_cons, List.length_nil]; omega, by simp⟩
          have HGD := Lib.hid hgd; clear hgd
          gi_wp2_with (gi_at_call 21; refine (callsIn_wide.2 (CD.out _ hv1.1 (Int.le_trans hv1.2 (by decide)) _ HR.out.env)).mono ?_; rintro e w3 ⟨rfl, hb⟩; have HR := Lib.hid (HR.out.later h9 hD hBn hg (BelowX.of (hb.mono HR.out.dl))); have HJ := Lib.hid (HL.out.grow HJ.out hb); clear hb; obtain ⟨fn2, tmps2, assign2, body2, hy, hY⟩ := HL.out.at HJ.out HLT.out _ _ (cat3 (Lib.itoa x0) [45] (Lib.itoa x1)) (m : Int) m rfl HGD.out)
          refine hY.mono ?_
          clear hy
          rintro e w4 (⟨rfl, hj, hk⟩ | ⟨rfl, hjx⟩)
          · have HR := Lib.hid (HR.out.later h9 hD hBn hg hk)
            have HJ := Lib.hid hj
            clear hj hk hY b0 d1
            gi_wp2
            refine ⟨⟨m + 1, f', _, by go_num, by omega, by omega, by omega, HJ.out, HR.out, ?_⟩, by simp [intOf]; omega⟩
            rw [HT.out, HST.out]; simp
          · gi_wp2
            refine bodyPost_ret (results_none rfl _ _ _) rfl ?_
            exact ⟨⟨_, rfl⟩, .inr ⟨_, by rw [HT.out, HST.out]; simp, hjx⟩⟩
        · have hst := upsL_no l f m (fun h => heq h.2)
          have hT2 : itemsL l = pre ++ samesL l l.length 2 := by rw [HT.out, hst]; simp
          have HT2 := Lib.hid hT2
          have heq' : (at0 l (m - 1) == at0 l 0 + (m : Int) - 1) = false := by simpa using heq
          clear heq hst hT2 HT
          gi_wp2
          gi_quiet (fail)
          have hbd : Below wx.heap.size wx (wx.drewN nq) := ⟨rfl, rfl, rfl, Nat.le_refl _, fun _ _ => rfl⟩
          have HJ := Lib.hid (HL.out.grow HJ.out hbd)
          have HR := Lib.hid (HR.out.later h9 hD hBn hg (BelowX.of (hbd.mono HR.out.dl)))
          clear hbd b0 d0 d1
          generalize wx.drewN nq = wy at HJ HR ⊢
          have b0 := cell_of_one HR.out.box
          have d0 : wy.cell? ⟨g, off, none⟩ = some (.int .i64 (at0 l 0)) := by simpa using HR.out.cells 0 hl0
          gi_wp2
          gi_loopw [5] (fun v wr => ∃ (m f : Nat) (pre : List It), v = .int .i64 m ∧ 2 ≤ m ∧ m ≤ l.length + 1 ∧ f + m = l.length + 2 ∧ J pre wr ∧ Reads R D Bn g off l cap wr ∧ itemsL l = pre ++ samesL l f m) (fun v _ => l.length + 1 - (intOf v).toNat)
          case atStart => exact ⟨2, l.length, _, rfl, Nat.le_refl _, by omega, rfl, HJ.out, HR.out, HT2.out⟩
          case round =>
            clear HJ HR HT2 b0 d0 hv0 hv1 hs0 hs1
            obtain ⟨m, f, pre, rfl, hm2, hml, hf, hj, hr, hT⟩ := hrel
            obtain ⟨wx, rfl⟩ : ∃ wx : World, wx = wr := ⟨_, rfl⟩
            have b0 : wx.cell? ⟨Bn, 0, none⟩ = some (.slice (some ⟨g, off, none⟩) l.length cap) := cell_of_one hr.box
            have d0 : wx.cell? ⟨g, off, none⟩ = some (.int .i64 (at0 l 0)) := by simpa using hr.cells 0 hl0
            have HJ := Lib.hid hj; have HR := Lib.hid hr; have HT := Lib.hid hT
            clear hj hr hT
            have hv0 := HRG.out 0
            have hv1 := HRG.out (m - 1)
            have hs0 := Lib.itoa_length_le (at0 l 0) (by omega) (by omega)
            have hs2 := Lib.itoa_length_le (m : Int) (by omega) (by omega)
            by_cases hle : m ≤ l.length
            · have d1 : wx.cell? ⟨g, off + (m - 1), none⟩ = some (.int .i64 (at0 l (m - 1))) := HR.out.cells (m - 1) (by omega)
              have hle' : (m : Int) ≤ l.length := by omega
              by_cases heq : at0 l (m - 1) = at0 l 0
              · obtain ⟨f', rfl⟩ : ∃ f', f = f' + 1 := ⟨f - 1, by omega⟩
                have hst := samesL_yes l f' m hle heq
                have HST := Lib.hid hst; clear hst
                generalize at0 l 0 = x0 at *
                generalize at0 l (m - 1) = x1 at *
                have heq' : (x1 == x0) = true := by simpa using heq
                clear heq
                gi_wp2
                gi_quiet (fail)
                have hbd : Below wx.heap.size wx (wx.drewN nq) := ⟨rfl, rfl, rfl, Nat.le_refl _, fun _ _ => rfl⟩
                have HJ := Lib.hid (HL.out.grow HJ.out hbd)
                have HR := Lib.hid (HR.out.later h9 hD hBn hg (BelowX.of (hbd.mono HR.out.dl)))
                clear hbd b0 d0 d1
                generalize wx.drewN nq = wy at HJ HR ⊢
                have hlt : pre.length < (itemsL l).length := by rw [HT.out, HST.out]; simp
                have HLT := Lib.hid hlt; clear hlt
                have hgd : ItGood ⟨Lib.itoa m ++ [120] ++ Lib.itoa x0, m⟩ := ⟨by show 1 ≤ m; omega, by show m ≤ 500; omega, by simp only [List.length_append, List.length_cons, List.length_nil]; omega, by simp⟩
                have HGD := Lib.hid hgd; clear hgd
                gi_wp2_with (gi_at_call 21; refine (callsIn_wide.2 (CD.out _ (by omega) (by omega) _ HR.out.env)).mono ?_; rintro e w3 ⟨rfl, hb⟩; have HR := Lib.hid (HR.out.later h9 hD hBn hg (BelowX.of (hb.mono HR.out.dl))); have HJ := Lib.hid (HL.out.grow HJ.out hb); clear hb; obtain ⟨fn2, tmps2, assign2, body2, hy, hY⟩ := HL.out.at HJ.out HLT.out _ _ (cat3 (Lib.itoa m) [120] (Lib.itoa x0)) (m : Int) m rfl HGD.out)
                refine hY.mono ?_
                clear hy
                rintro e w4 (⟨rfl, hj, hk⟩ | ⟨rfl, hjx⟩)
                · have HR := Lib.hid (HR.out.later h9 hD hBn hg hk)
                  have HJ := Lib.hid hj
                  clear hj hk hY
                  gi_wp2
                  refine ⟨⟨m + 1, f', _, by go_num, by omega, by omega, by omega, HJ.out, HR.out, ?_⟩, by simp [intOf]; omega⟩
                  rw [HT.out, HST.out]; simp
                · gi_wp2
                  refine bodyPost_ret (results_none rfl _ _ _) rfl ?_
                  exact ⟨⟨_, rfl⟩, .inr ⟨_, by rw [HT.out, HST.out]; simp, hjx⟩⟩
              · have hst := samesL_no l f m (fun h => heq h.2)
                have HST := Lib.hid hst; clear hst
                generalize at0 l 0 = x0 at *
                generalize at0 l (m - 1) = x1 at *
                have heq' : (x1 == x0) = false := by simpa using heq
                clear heq
                gi_wp2
                gi_quiet (fail)
                have hbd : Below wx.heap.size wx (wx.drewN nq) := ⟨rfl, rfl, rfl, Nat.le_refl _, fun _ _ => rfl⟩
                have HJ := Lib.hid (HL.out.grow HJ.out hbd)
                gi_wp2
                go_end0
                exact ⟨⟨_, rfl⟩, .inl ⟨pre, by rw [HT.out, HST.out]; simp, HJ.out⟩⟩
            · have hst := samesL_no l f m (fun h => hle h.1)
              have HST := Lib.hid hst; clear hst
              have hle' : decide ((m : Int) ≤ l.length) = false := by simp; omega
              gi_wp2
              gi_quiet (fail)
              have hbd : Below wx.heap.size wx (wx.drewN nq) := ⟨rfl, rfl, rfl, Nat.le_refl _, fun _ _ => rfl⟩
              have HJ := Lib.hid (HL.out.grow HJ.out hbd)
              gi_wp2
              go_end0
              exact ⟨⟨_, rfl⟩, .inl ⟨pre, by rw [HT.out, HST.out]; simp, HJ.out⟩⟩
      · have hst := upsL_no l f m (fun h => hle h.1)
        have hT2 : itemsL l = pre ++ samesL l l.length 2 := by rw [HT.out, hst]; simp
        have HT2 := Lib.hid hT2
        have hle' : decide ((m : Int) ≤ l.length) = false := by simp; omega
        clear hst hT2 HT
        gi_wp2
        gi_quiet (fail)
        have hbd : Below wx.heap.size wx (wx.drewN nq) := ⟨rfl, rfl, rfl, Nat.le_refl _, fun _ _ => rfl⟩
        have HJ := Lib.hid (HL.out.grow HJ.out hbd)
        have HR := Lib.hid (HR.out.later h9 hD hBn hg (BelowX.of (hbd.mono HR.out.dl)))
        clear hbd b0 d0
        generalize wx.drewN nq = wy at HJ HR ⊢
        have b0 := cell_of_one HR.out.box
        have d0 : wy.cell? ⟨g, off, none⟩ = some (.int .i64 (at0 l 0)) := by simpa using HR.out.cells 0 hl0
        gi_wp2
        gi_loopw [5] (fun v wr => ∃ (m f : Nat) (pre : List It), v = .int .i64 m ∧ 2 ≤ m ∧ m ≤ l.length + 1 ∧ f + m = l.length + 2 ∧ J pre wr ∧ Reads R D Bn g off l cap wr ∧ itemsL l = pre ++ samesL l f m) (fun v _ => l.length + 1 - (intOf v).toNat)
        case atStart => exact ⟨2, l.length, _, rfl, Nat.le_refl _, by omega, rfl, HJ.out, HR.out, HT2.out⟩
        case round =>
          clear HJ HR HT2 b0 d0 hv0 hv1 hs0 hs1
          obtain ⟨m, f, pre, rfl, hm2, hml, hf, hj, hr, hT⟩ := hrel
          obtain ⟨wx, rfl⟩ : ∃ wx : World, wx = wr := ⟨_, rfl⟩
          have b0 : wx.cell? ⟨Bn, 0, none⟩ = some (.slice (some ⟨g, off, none⟩) l.length cap) := cell_of_one hr.box
          have d0 : wx.cell? ⟨g, off, none⟩ = some (.int .i64 (at0 l 0)) := by simpa using hr.cells 0 hl0
          have HJ := Lib.hid hj; have HR := Lib.hid hr; have HT := Lib.hid hT
          clear hj hr hT
          have hv0 := HRG.out 0
          have hv1 := HRG.out (m - 1)
          have hs0 := Lib.itoa_length_le (at0 l 0) (by omega) (by omega)
          have hs2 := Lib.itoa_length_le (m : Int) (by omega) (by omega)
          by_cases hle : m ≤ l.length
          · have d1 : wx.cell? ⟨g, off + (m - 1), none⟩ = some (.int .i64 (at0 l (m - 1))) := HR.out.cells (m - 1) (by omega)
            have hle' : (m : Int) ≤ l.length := by omega
            by_cases heq : at0 l (m - 1) = at0 l 0
            · obtain ⟨f', rfl⟩ : ∃ f', f = f' + 1 := ⟨f - 1, by omega⟩
              have hst := samesL_yes l f' m hle heq
              have HST := Lib.hid hst; clear hst
              generalize at0 l 0 = x0 at *
              generalize at0 l (m - 1) = x1 at *
              have heq' : (x1 == x0) = true := by simpa using heq
              clear heq
              gi_wp2
              gi_quiet (fail)
              have hbd : Below wx.heap.size wx (wx.drewN nq) := ⟨rfl, rfl, rfl, Nat.le_refl _, fun _ _ => rfl⟩
              have HJ := Lib.hid (HL.out.grow HJ.out hbd)
              have HR := Lib.hid (HR.out.later h9 hD hBn hg (BelowX.of (hbd.mono HR.out.dl)))
              clear hbd b0 d0 d1
              generalize wx.drewN nq = wy at HJ HR ⊢
              have hlt : pre.length < (itemsL l).length := by rw [HT.out, HST.out]; simp
              have HLT := Lib.hid hlt; clear hlt
              have hgd : ItGood ⟨Lib.itoa m ++ [120] ++ Lib.itoa x0, m⟩ := ⟨by show 1 ≤ m; omega, by show m ≤ 500; omega, by simp only [List.length_append, List.length_cons, List.length_nil]; omega, by simp⟩
              have HGD := Lib.hid hgd; clear hgd
              gi_wp2_with (gi_at_call 21; refine (callsIn_wide.2 (CD.out _ (by omega) (by omega) _ HR.out.env)).mono ?_; rintro e w3 ⟨rfl, hb⟩; have HR := Lib.hid (HR.out.later h9 hD hBn hg (BelowX.of (hb.mono HR.out.dl))); have HJ := Lib.hid (HL.out.grow HJ.out hb); clear hb; obtain ⟨fn2, tmps2, assign2, body2, hy, hY⟩ := HL.out.at HJ.out HLT.out _ _ (cat3 (Lib.itoa m) [120] (Lib.itoa x0)) (m : Int) m rfl HGD.out)
              refine hY.mono ?_
              clear hy
              rintro e w4 (⟨rfl, hj, hk⟩ | ⟨rfl, hjx⟩)
              · have HR := Lib.hid (HR.out.later h9 hD hBn hg hk)
                have HJ := Lib.hid hj
                clear hj hk hY
                gi_wp2
                refine ⟨⟨m + 1, f', _, by go_num, by omega, by omega, by omega, HJ.out, HR.out, ?_⟩, by simp [intOf]; omega⟩
                rw [HT.out, HST.out]; simp
              · gi_wp2
                refine bodyPost_ret (results_none rfl _ _ _) rfl ?_
                exact ⟨⟨_, rfl⟩, .inr ⟨_, by rw [HT.out, HST.out]; simp, hjx⟩⟩
            · have hst := samesL_no l f m (fun h => heq h.2)
              have HST := Lib.hid hst; clear hst
              generalize at0 l 0 = x0 at *
              generalize at0 l (m - 1) = x1 at *
              have heq' : (x1 == x0) = false := by simpa using heq
              clear heq
              gi_wp2
              gi_quiet (fail)
              have hbd : Below wx.heap.size wx (wx.drewN nq) := ⟨rfl, rfl, rfl, Nat.le_refl _, fun _ _ => rfl⟩
              have HJ := Lib.hid (HL.out.grow HJ.out hbd)
              gi_wp2
              go_end0
              exact ⟨⟨_, rfl⟩, .inl ⟨pre, by rw [HT.out, HST.out]; simp, HJ.out⟩⟩
          · have hst := samesL_no l f m (fun h => hle h.1)
            have HST := Lib.hid hst; clear hst
            have hle' : decide ((m : Int) ≤ l.length) = false := by simp; omega
            gi_wp2
            gi_quiet (fail)
            have hbd : Below wx.heap.size wx (wx.drewN nq) := ⟨rfl, rfl, rfl, Nat.le_refl _, fun _ _ => rfl⟩
            have HJ := Lib.hid (HL.out.grow HJ.out hbd)
            gi_wp2
            go_end0
            exact ⟨⟨_, rfl⟩, .inl ⟨pre, by rw [HT.out, HST.out]; simp, HJ.out⟩⟩
  · gi_wp2
    refine bodyPost_ret (results_none rfl _ _ _) rfl ?_
    exact ⟨⟨_, rfl⟩, .inr ⟨_, by simp [itemsL], hjx⟩⟩

/-- The items as what a loop over them is handed. -/
abbrev GIt := { x : It // ItGood x }
theorem items_stops (n R D Bn g off cap : Nat) (l : List Int) (hl0 : 0 < l.length) (hl5 : l.length ≤ 500) (hrg : ∀ k, 0 ≤ at0 l k ∧ at0 l k ≤ 9999) (h9 : 9 ≤ R) (hD : 9 ≤ D) (hBn : Bn < D ∧ Bn ≠ R) (hg : g < D ∧ g ≠ R)
    (w : World) (hDw : D ≤ w.heap.size) (hR : Reads R D Bn g off l cap w) :
    SeqStopsK Fence.wide n Tryz.prog 103 #[.pointer (some ⟨Bn, 0, none⟩)] (fun x : GIt => #[itV x.1]) (BelowX R D) (fun ys => ys.map (·.1) = itemsL l) (fun _ => True) (itemsL l).length w := by
  intro ly J Jx W hW hJ hJx hY h0
  refine (items1_in n R D Bn g off cap ly l hl0 hl5 hrg h9 hD hBn hg (fun pre W => ∃ p : List GIt, p.map (·.1) = pre ∧ J p W) (fun pre W => ∃ p : List GIt, p.map (·.1) = pre ∧ Jx p W) W ?_ (hR.later h9 hD hBn hg (BelowX.of (hW.mono hDw))) ⟨[], rfl, h0⟩).mono ?_
  · refine ⟨fun s A B row ⟨p, hp, hj⟩ hg hr => ⟨p, hp, hJ p A B row hj hg hr⟩, fun s A B row ⟨p, hp, hj⟩ hg hr => ⟨p, hp, hJx p A B row hj hg hr⟩, ?_⟩
    rintro pre x W1 hx ⟨p, rfl, hj⟩ hlen
    refine (hY p ⟨x, hx⟩ W1 hj (by simpa using hlen)).mono ?_
    rintro e W' (⟨he, hj', hk⟩ | ⟨he, hjx⟩)
    · exact .inl ⟨he, ⟨p ++ [⟨x, hx⟩], by simp, hj'⟩, hk⟩
    · exact .inr ⟨he, ⟨p ++ [⟨x, hx⟩], by simp, hjx⟩⟩
  · rintro e W' ⟨hv, ⟨ys, hys, p, hp, hj⟩ | ⟨pre, _, p, hp, hj⟩⟩
    · exact ⟨hv, .inl ⟨p, by show p.map (·.1) = itemsL l; rw [hp, hys], hj⟩⟩
    · exact ⟨hv, .inr ⟨p, trivial, hj⟩⟩
end Go.Proofs.YtgldpdbdgjehkaaGreatDoor
