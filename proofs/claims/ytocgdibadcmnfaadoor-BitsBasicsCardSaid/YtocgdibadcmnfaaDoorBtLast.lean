/- bits: Last. -/
import Derived.Test.YtocgdibadcmnfaaDoorBtFitAny
namespace Go.Proofs.YtocgdibadcmnfaaDoor
open Go.RowKit Go.Shelf
attribute [local go_sem] Oper.semAt_some

/-- The last one below b. -/
def lastF (g : Nat → Bool) : Nat → Int × Int
  | 0 => (0, 4)
  | b + 1 => if g b then ((b : Int), 0) else lastF g b
theorem lastF_none {g : Nat → Bool} : ∀ {b : Nat}, (∀ i, i < b → g i = false) → lastF g b = (0, 4)
  | 0, _ => rfl
  | b + 1, h => by rw [lastF, h b (by omega)]; exact lastF_none fun i hi => h i (by omega)
theorem lastF_some {g : Nat → Bool} {i : Nat} (hg : g i = true) : ∀ {b : Nat}, i < b → (∀ j, i < j → j < b → g j = false) → lastF g b = ((i : Int), 0)
  | b + 1, hi, h => by
    rw [lastF]
    by_cases e : i = b
    · subst e; rw [hg]; rfl
    · rw [h b (by omega) (by omega)]; exact lastF_some hg (by omega) fun j h1 h2 => h j h1 (by omega)
def lastR (n : Int) (ws : List Nat) (b : Int) (on : Bool) : Int × Int := if runR n ws 0 b ≠ 0 then (0, runR n ws 0 b) else lastF (onB (bitN ws) on) b.toNat
/-- An index of these words. -/
abbrev WIx (ws : List Nat) := { i : Nat // i < ws.length }
def ixV (ws : List Nat) (x : WIx ws) : Array Value := #[.int .i64 (x.1 : Int), .int .u64 ((ws[x.1]'x.2 : Nat) : Int)]
def downL (n : Nat) : List Nat := (List.range n).reverse
theorem downL_succ (n : Nat) : downL (n + 1) = n :: downL n := by unfold downL; rw [List.range_succ, List.reverse_append]; rfl
structure KReads (D B : Nat) (p : Option Addr) (cap : Nat) (ws : List Nat) (W : World) : Prop where
  dl : D ≤ W.heap.size
  box : W.heap[B]? = some (.cells #[.slice p ws.length cap] 22 (0, 0))
  words : WordsAt W p ws
structure KFree (D B : Nat) (p : Option Addr) (ws : List Nat) : Prop where
  b0 : B < D
  wd : 0 < ws.length → ∀ g off, p = some ⟨g, off, none⟩ → g < D
theorem KReads.later {D B : Nat} {p : Option Addr} {cap : Nat} {ws : List Nat} {W W' : World} (h : KReads D B p cap ws W) (hf : KFree D B p ws) (hb : BelowS (fun _ => False) D W W') : KReads D B p cap ws W' := by
  refine ⟨Nat.le_trans h.dl hb.size, (hb.block _ hf.b0 id).trans h.box, h.words.len, h.words.lt, fun hl => ?_⟩
  obtain ⟨g, off, e, hg, hc⟩ := h.words.at_ hl
  have h1 := hf.wd hl g off e
  exact ⟨g, off, e, Nat.lt_of_lt_of_le hg hb.size, fun j hj => (World.cell?_of_block (w := W) (hb.block g h1 id)).trans (hc j hj)⟩
theorem back_any (p : Option Addr) (len cap : Nat) (w : World) : Calls Tryd.prog 62 #[.slice p len cap] w fun e w' =>
    e = .returned (.func (.func 73) #[] #[.pointer (some ⟨w.heap.size, 0, none⟩)]) ∧ w' = w.alloc (.cells #[.slice p len cap] 22) := by
  go_enter Tryd.func62, Tryd.ntmps62
  go_wp2
  go_ret
  exact ⟨rfl, rfl⟩
structure KLoops (n D l N : Nat) (ws : List Nat) (J Jx : List (WIx ws) → World → Prop) (B : Nat) : Prop where
  jb : AbidesFrom B J
  jx : AbidesFrom B Jx
  yield : ∀ pre x W1, J pre W1 → pre.length < N → YieldAt Fence.wide n Tryd.prog l (ixV ws x) W1 fun e W' =>
      (e = .returned (.bool true) ∧ J (pre ++ [x]) W' ∧ BelowS (fun _ => False) D W1 W') ∨ (e = .returned (.bool false) ∧ Jx (pre ++ [x]) W')
theorem KLoops.at {n D l N : Nat} {ws : List Nat} {J Jx : List (WIx ws) → World → Prop} {B : Nat} (h : KLoops n D l N ws J Jx B) {pre : List (WIx ws)} {W1 : World} (hj : J pre W1) (hN : pre.length < N) (i : Nat) (hi : i < ws.length) :
    YieldAt Fence.wide n Tryd.prog l #[.int .i64 (i : Int), .int .u64 ((ws[i] : Nat) : Int)] W1 fun e W' =>
      (e = .returned (.bool true) ∧ J (pre ++ [⟨i, hi⟩]) W' ∧ BelowS (fun _ => False) D W1 W') ∨ (e = .returned (.bool false) ∧ Jx (pre ++ [⟨i, hi⟩]) W') := h.yield pre ⟨i, hi⟩ W1 hj hN
def KPost (ws : List Nat) (J Jx : List (WIx ws) → World → Prop) (e : Ending) (W' : World) : Prop := (∃ v, e = .returned v) ∧ ((∃ ys : List (WIx ws), ys.map (·.1) = downL ws.length ∧ J ys W') ∨ (∃ pre : List (WIx ws), pre.map (·.1) <+: downL ws.length ∧ Jx pre W'))
theorem k_done {ws : List Nat} {J Jx : List (WIx ws) → World → Prop} {v : Value} {W' : World} (ys : List (WIx ws)) (h1 : ys.map (·.1) = downL ws.length) (h : J ys W') : KPost ws J Jx (.returned v) W' := ⟨⟨_, rfl⟩, .inl ⟨ys, h1, h⟩⟩
theorem k_stop {ws : List Nat} {J Jx : List (WIx ws) → World → Prop} {v : Value} {W' : World} (pre : List (WIx ws)) (h1 : pre.map (·.1) <+: downL ws.length) (h : Jx pre W') : KPost ws J Jx (.returned v) W' := ⟨⟨_, rfl⟩, .inr ⟨pre, h1, h⟩⟩

set_option maxRecDepth 100000 in
set_option maxHeartbeats 2000000 in
theorem back1_in (n D B cap ly : Nat) (p : Option Addr) (ws : List Nat) (hl64 : ws.length ≤ 64) (hf : KFree D B p ws)
    (J Jx : List (WIx ws) → World → Prop) (W : World) (hL : KLoops (n - 1) D ly ws.length ws J Jx W.heap.size) (hR : KReads D B p cap ws W) (h0 : J [] W) :
    CallsIn Fence.wide n Tryd.prog 73 #[.func (.yield ly) #[] #[], .pointer (some ⟨B, 0, none⟩)] W (KPost ws J Jx) := by
  refine callsIn_of_wp Tryd.func73 rfl trivial ?_ rfl
  simp only [Tryd.ntmps73, List.size_toArray, List.length_cons, List.length_nil, Nat.reduceAdd, Nat.reduceSub, Array.replicate_succ, Array.replicate_zero, List.push_toArray, List.append_toArray, List.nil_append, List.cons_append]
  have b0 := cell_of_row1 hR.box
  have HR := Lib.hid hR; have HL := Lib.hid hL; have HJ := Lib.hid h0; have HF := Lib.hid hf
  clear hR hL h0 hf
  have hwf : ∀ f, Fence.wide.fn f := fun _ => trivial
  have hwd : Fence.wide.depth.isSome = false := rfl
  have l64 : (ws.length : Int) ≤ 64 := by omega
  gi_wp2
  gi_loopw [3] (fun v wr => ∃ (k : Nat) (pre : List (WIx ws)), v = .int .i64 ((k : Int) - 1) ∧ k ≤ ws.length ∧ J pre wr ∧ KReads D B p cap ws wr ∧ pre.length + k = ws.length ∧ downL ws.length = pre.map (·.1) ++ downL k) (fun v _ => (intOf v + 1).toNat)
  case atStart => exact ⟨ws.length, [], rfl, Nat.le_refl _, HJ.out, HR.out, by simp, by simp⟩
  case round =>
    clear b0 HJ HR
    obtain ⟨k, pre, rfl, hk, hj, hr, hpl, hT⟩ := hrel
    obtain ⟨wx, rfl⟩ : ∃ wx : World, wx = wr := ⟨_, rfl⟩
    have b0 := cell_of_row1 hr.box
    have HJ := Lib.hid hj; have HR := Lib.hid hr; have HT := Lib.hid hT
    clear hj hr hT
    by_cases hk0 : k = 0
    · subst hk0
      gi_wp2
      go_end0
      exact k_done pre (by rw [HT.out]; simp [downL]) HJ.out
    · obtain ⟨i, rfl⟩ : ∃ i, k = i + 1 := ⟨k - 1, by omega⟩
      rw [show ((i + 1 : Nat) : Int) - 1 = (i : Int) by omega]
      have hil : i < ws.length := by omega
      obtain ⟨g, off, rfl, hg, hc⟩ := HR.out.words.at_ (by omega)
      have c0 := hc i hil
      have i0 : (0 : Int) ≤ i := by omega
      have i1 : (i : Int) < ws.length := by omega
      obtain ⟨fn2, tmps2, assign2, body2, hy, hY⟩ := HL.out.at HJ.out (by omega) i hil
      clear hc
      gi_wp2
      refine hY.mono ?_
      clear hy
      rintro e w2 (⟨rfl, hj, hkk⟩ | ⟨rfl, hjx⟩)
      · have HR2 := Lib.hid (HR.out.later HF.out hkk)
        have HJ2 := Lib.hid hj
        clear hj hkk hY b0 c0
        gi_wp2
        refine ⟨⟨i, _, rfl, by omega, HJ2.out, HR2.out, by simp; omega, ?_⟩, by simp [intOf]⟩
        rw [HT.out, downL_succ]; simp
      · gi_wp2
        refine bodyPost_ret (results_none rfl _ _ _) rfl ?_
        exact k_stop _ (by rw [HT.out, downL_succ]; simp) hjx
theorem back_stops (n D B cap : Nat) (p : Option Addr) (ws : List Nat) (hl64 : ws.length ≤ 64) (hf : KFree D B p ws) (w : World) (hR : KReads D B p cap ws w) :
    SeqStopsK Fence.wide n Tryd.prog 73 #[.pointer (some ⟨B, 0, none⟩)] (ixV ws) (BelowS (fun _ => False) D) (fun ys => ys.map (·.1) = downL ws.length) (fun ys => ys.map (·.1) <+: downL ws.length) ws.length w := by
  intro ly J Jx W hW hJ hJx hY h0
  exact (back1_in n D B cap ly p ws hl64 hf J Jx W ⟨hJ, hJx, hY⟩ (hR.later hf (BelowS.of (hW.mono hR.dl))) h0).mono fun e W' h => h
end Go.Proofs.YtocgdibadcmnfaaDoor
