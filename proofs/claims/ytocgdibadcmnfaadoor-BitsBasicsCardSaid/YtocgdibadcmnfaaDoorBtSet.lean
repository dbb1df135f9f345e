/- bits: Set, New. -/
import Derived.Test.YtocgdibadcmnfaaDoorBtPut
namespace Go.Proofs.YtocgdibadcmnfaaDoor
open Go.RowKit

/-- What a function returns that makes bits, or says what is wrong. -/
def BtPost (r : (Nat × List Nat) × Int) (w : World) (e : Ending) (w' : World) : Prop := ∃ p cap, e = .returned (.tuple #[.agg #[.int .i64 (r.1.1 : Int), .slice p r.1.2.length cap], .int .i64 r.2]) ∧ WordsAt w' p r.1.2 ∧ Below w.heap.size w w'
theorem btPost_mk {r : (Nat × List Nat) × Int} {n : Nat} {ws : List Nat} {c : Int} {p : Option Addr} {cap : Nat} {w w' : World} (h : r = ((n, ws), c)) (hw : WordsAt w' p ws) (hb : Below w.heap.size w w') :
    BtPost r w (.returned (.tuple #[.agg #[.int .i64 (n : Int), .slice p ws.length cap], .int .i64 c])) w' := ⟨p, cap, by rw [h], by rw [h]; exact hw, hb⟩
theorem btPost_err {r : (Nat × List Nat) × Int} {c : Int} {w w' : World} (h : r = ((0, []), c)) (hb : Below w.heap.size w w') :
    BtPost r w (.returned (.tuple #[.agg #[.int .i64 0, .slice none 0 0], .int .i64 c])) w' := ⟨none, 0, by rw [h]; rfl, by rw [h]; exact WordsAt.none_ _ _, hb⟩
def runOn (a b : Nat) (on : Bool) (f : Nat → Bool) (i : Nat) : Bool := if a ≤ i ∧ i < b then on else f i
def setR (n : Int) (ws : List Nat) (a b : Int) (on : Bool) : (Nat × List Nat) × Int :=
  if runR n ws a b ≠ 0 then ((0, []), runR n ws a b) else ((n.toNat, packR n.toNat (runOn a.toNat b.toNat on (bitN ws))), 0)
/-- Two cells of a block of the call's own, that may be written. -/
structure Res2 (W : World) (B : Nat) (x y : Value) : Prop where
  k0 : W.cell? ⟨B, 0, none⟩ = some x
  k1 : W.cell? ⟨B, 1, none⟩ = some y
  f0 : W.frozen? ⟨B, 0, none⟩ = false
  f1 : W.frozen? ⟨B, 1, none⟩ = false
  lt : B < W.heap.size
theorem Res2.below {W W' : World} {B : Nat} {x y : Value} (h : Res2 W B x y) (hb : Below W.heap.size W W') : Res2 W' B x y :=
  ⟨(hb.cell (p := ⟨B, 0, none⟩) h.lt).trans h.k0, (hb.cell (p := ⟨B, 1, none⟩) h.lt).trans h.k1, (hb.frozen (p := ⟨B, 0, none⟩) h.lt).trans h.f0, (hb.frozen (p := ⟨B, 1, none⟩) h.lt).trans h.f1, Nat.lt_of_lt_of_le h.lt hb.size⟩
theorem Res2.new (w : World) (x y : Value) (t : TypeId) : Res2 (w.alloc (.cells #[x, y] t)) w.heap.size x y := ⟨by simp, by simp, by simp, by simp, by simp⟩
theorem Res2.new1 (w : World) (o : Obj) (x y : Value) (t : TypeId) : Res2 ((w.alloc o).alloc (.cells #[x, y] t)) (w.heap.size + 1) x y := by
  have := Res2.new (w.alloc o) x y t
  rwa [show (w.alloc o).heap.size = w.heap.size + 1 by simp] at this
theorem BoxAt.new1 (w : World) (n : Int) (s : Value) (t : TypeId) (o : Obj) : BoxAt ((w.alloc (.cells #[.int .i64 n, s] t)).alloc o) w.heap.size n s :=
  (BoxAt.new w n s t).below ((Below.refl _ _).alloc (Nat.le_refl _) _)
theorem set2B {w W : World} {B b : Nat} (h : Below b w W) (hB : b ≤ B) (u v : Value) : Below b w ((W.setCell ⟨B, 0, none⟩ u).setCell ⟨B, 1, none⟩ v) :=
  Below.setCell (p := ⟨B, 1, none⟩) (Below.setCell (p := ⟨B, 0, none⟩) h hB u) hB v
theorem WordsAt.set2 {W : World} {p : Option Addr} {ws : List Nat} {B : Nat} (h : WordsAt W p ws) (hp : ∀ g off, p = some ⟨g, off, none⟩ → g ≠ B) (u v : Value) : WordsAt ((W.setCell ⟨B, 0, none⟩ u).setCell ⟨B, 1, none⟩ v) p ws :=
  ⟨h.len, h.lt, fun h0 => by
    obtain ⟨g, off, e, hg, hc⟩ := h.at_ h0
    have hne := hp g off e
    refine ⟨g, off, e, by simpa [World.setCell] using hg, fun j hj => ?_⟩
    have hb : ((W.setCell ⟨B, 0, none⟩ u).setCell ⟨B, 1, none⟩ v).heap[g]? = W.heap[g]? := by
      rw [Below.heap_setCell _ _ _ _ (fun e => hne e), Below.heap_setCell _ _ _ _ (fun e => hne e)]
    exact (World.cell?_of_block hb).trans (hc j hj)⟩

set_option maxHeartbeats 2000000 in
set_option maxRecDepth 100000 in
theorem set_any (n : Int) (p : Option Addr) (cap : Nat) (ws : List Nat) (a b : Int) (on : Bool) (w : World) (h : WordsAt w p ws) :
    Calls Tryd.prog 22 #[.agg #[.int .i64 n, .slice p ws.length cap], .int .i64 a, .int .i64 b, .bool on] w (BtPost (setR n ws a b on) w) := by
  have ck := fun W (hW : Below w.heap.size w W) => checkRun_any n p cap ws a b W (h.below hW)
  unfold ErrPost at ck
  have e : setR n ws a b on = if runR n ws a b ≠ 0 then ((0, []), runR n ws a b) else ((n.toNat, packR n.toNat (runOn a.toNat b.toNat on (bitN ws))), 0) := rfl
  have hok := runR_ok (n := n) (a := a) (b := b) h.lt
  have HW := Lib.hid h
  generalize runR n ws a b = c at ck e hok
  generalize setR n ws a b on = r at e
  have CK := Lib.hid ck; clear ck h
  have hz2 : ∀ (o1 o2 : Obj), ((w.alloc o1).alloc o2).heap.size = w.heap.size + 1 + 1 := fun _ _ => by simp
  have hb2 : ∀ (o1 o2 : Obj), Below w.heap.size w ((w.alloc o1).alloc o2) := fun o1 o2 => ((Below.refl _ _).alloc (Nat.le_refl _) _).alloc (by simp) _
  have HZ2 := Lib.hid hz2; have HBB := Lib.hid hb2
  clear hz2 hb2
  by_cases hc : c ≠ 0
  · rw [if_pos hc] at e
    obtain ⟨t1, t2⟩ := neq0 hc
    have E := Lib.hid e; clear e hc hok
    go_enter Tryd.func22, Tryd.ntmps22
    go_wp2_with (go_at_call 56; refine (CK.out _ (HBB.out _ _)).mono ?_; rintro e w1 ⟨rfl, hb⟩; have HB := Lib.hid ((HBB.out _ _).trans (hb.mono (by rw [HZ2.out]; omega))); obtain ⟨k0, k1, f0, f1, lt⟩ := (Res2.new1 w _ (.int .i64 0) (.slice none 0 0) 24).below hb; clear hb)
    refine bodyPost_ret (v := .tuple #[.agg #[.int .i64 0, .slice none 0 0], .int .i64 c]) (by simp [results, Tryd.results22, go_sem, k0, k1, f0, f1]) rfl ?_
    exact btPost_err E.out (set2B HB.out (by omega) _ _)
  · rw [if_neg hc] at e
    obtain rfl : c = 0 := Classical.not_not.1 hc
    obtain ⟨m, i, j, rfl, rfl, rfl, hij, hjm, hv⟩ := hok rfl
    rw [Int.toNat_natCast, Int.toNat_natCast, Int.toNat_natCast] at e
    obtain ⟨hr1, hr2⟩ := valid_room hv
    have hm := hv.le
    have hp := put_bits hv hjm (a := i) on
    rw [show packR m (runOn i j on (bitN ws)) = putR ws i j on from hp.symm] at e
    have cp := fun W (hW : Below w.heap.size w W) => put_any m p cap ws i j on W (HW.out.below hW) hr2 (by omega) (by omega)
    unfold MadePost at cp
    generalize putR ws i j on = ws' at e cp
    have E := Lib.hid e; have CP := Lib.hid cp
    clear e cp hp hc hok hv
    go_enter Tryd.func22, Tryd.ntmps22
    go_wp2_with (first
      | (go_at_call 56; refine (CK.out _ (HBB.out _ _)).mono ?_; rintro e w1 ⟨rfl, hb⟩; have HB := Lib.hid ((HBB.out _ _).trans (hb.mono (by rw [HZ2.out]; omega))); have HR := Lib.hid ((Res2.new1 w _ (.int .i64 0) (.slice none 0 0) 24).below hb); obtain ⟨b0, b1, _⟩ := (BoxAt.new1 w m (.slice p ws.length cap) 24 _).below hb; clear hb CK)
      | (go_at_call 51; refine (CP.out _ HB.out).mono ?_; rintro e w2 ⟨p2, c2, rfl, hwa, hna, hb⟩; have HB2 := Lib.hid (HB.out.trans (hb.mono HB.out.size)); have HWA := Lib.hid hwa; have HNA := Lib.hid (fun g off e => Nat.lt_of_lt_of_le HR.out.lt (hna g off e)); obtain ⟨k0, k1, f0, f1, lt⟩ := HR.out.below hb; clear hb hwa hna CP))
    refine bodyPost_ret (v := .tuple #[.agg #[.int .i64 m, .slice p2 ws'.length c2], .int .i64 0]) (by simp [results, Tryd.results22, go_sem, k0, k1, f0, f1]) rfl ?_
    exact btPost_mk E.out (HWA.out.set2 (fun g off e h => by have := HNA.out g off e; omega) _ _) (set2B HB2.out (by omega) _ _)
def newR (n : Int) (on : Bool) : (Nat × List Nat) × Int := if n < 0 ∨ 4096 < n then ((0, []), 7) else ((n.toNat, packR n.toNat fun _ => on), 0)
theorem zeros_valid {n : Nat} (h : n ≤ 4096) (F : Nat → Nat) : Valid n (filled F (lenW n) 0) := by
  have hz : ∀ x ∈ filled F (lenW n) 0, x = 0 := by
    intro x hx
    obtain ⟨k, _, rfl⟩ := List.mem_map.1 hx
    simp
  refine ⟨h, filled_len _ _ _, fun x hx => by rw [hz x hx]; decide, fun i _ => ?_⟩
  unfold bitN
  cases hq : (filled F (lenW n) 0)[i / 64]? with
  | none => simp
  | some x => rw [hz x (List.mem_of_getElem? hq)]; simp

set_option maxHeartbeats 2000000 in
set_option maxRecDepth 100000 in
theorem new_any (n : Int) (on : Bool) (w : World) : Calls Tryd.prog 15 #[.int .i64 n, .bool on] w (BtPost (newR n on) w) := by
  by_cases h0 : n < 0 ∨ 4096 < n
  · have e : newR n on = ((0, []), 7) := by unfold newR; rw [if_pos h0]
    have E := Lib.hid e; clear e
    have h1 : n < 0 ∨ (¬ n < 0 ∧ 4096 < n) := by omega
    clear h0
    rcases h1 with h1 | ⟨h1, h2⟩
    all_goals
      go_enter Tryd.func15, Tryd.ntmps15
      go_wp2_with fail
      refine bodyPost_ret (v := .tuple #[.agg #[.int .i64 0, .slice none 0 0], .int .i64 7]) (by simp [results, Tryd.results15, go_sem]) rfl ?_
      exact btPost_err E.out ((Below.refl _ _).alloc (Nat.le_refl _) _)
  · obtain ⟨m, rfl⟩ : ∃ m : Nat, n = (m : Int) := ⟨n.toNat, by omega⟩
    have hm : m ≤ 4096 := by omega
    have e : newR m on = ((m, packR m fun _ => on), 0) := by unfold newR; rw [if_neg h0]; rfl
    have hv := zeros_valid hm (fun _ => 0)
    have hp := put_bits hv (Nat.le_refl m) (a := 0) on
    rw [pack_congr (g := fun _ => on) (fun i hi => by simp [hi])] at hp
    rw [← hp] at e
    have hl : lenW m ≤ 64 := by unfold lenW; omega
    have hlt0 := hv.lt
    have cp := fun (W : World) (B : Nat) (hW : W.heap[B]? = some (Obj.cells (wordsC (filled (fun _ => 0) (lenW m) 0)) 58 (0, 0))) => put_any m _ (lenW m) _ 0 m on W (words_of_row hW (by rw [filled_len]; unfold maxLen; omega) hlt0) (by rw [filled_len]; exact hl) (by omega) (by omega)
    unfold MadePost at cp
    rw [filled_len, show ((0 : Nat) : Int) = 0 from rfl] at cp
    have hrw : ∀ (o1 o2 : Obj), (((w.alloc o1).alloc (.cells (madeCells #[.int .u64 0] (lenW m)) 58)).alloc o2).heap[w.heap.size + 1]? = some (Obj.cells (wordsC (filled (fun _ => 0) (lenW m) 0)) 58 (0, 0)) := by
      intro o1 o2
      rw [Below.heap_alloc _ _ _ (by simp), ← filled_zero]
      have := heap_alloc_new (w.alloc o1) (.cells (madeCells #[.int .u64 0] (lenW m)) 58)
      rwa [show (w.alloc o1).heap.size = w.heap.size + 1 by simp] at this
    have hzz : ∀ (o1 o2 o3 : Obj), (((w.alloc o1).alloc o2).alloc o3).heap.size = w.heap.size + 1 + 1 + 1 := fun _ _ _ => by simp
    have hbb : ∀ (o1 o2 o3 : Obj), Below w.heap.size w (((w.alloc o1).alloc o2).alloc o3) := fun o1 o2 o3 => (((Below.refl _ _).alloc (Nat.le_refl _) _).alloc (by simp) _).alloc (by simp; omega) _
    have hrr : ∀ (o1 o2 : Obj), Res2 (((w.alloc (.cells #[.int .i64 0, .slice none 0 0] 24)).alloc o1).alloc o2) w.heap.size (.int .i64 0) (.slice none 0 0) := fun o1 o2 =>
      ((Res2.new w _ _ _).below ((Below.refl _ _).alloc (Nat.le_refl _) _)).below ((Below.refl _ _).alloc (Nat.le_refl _) _)
    have HRW := Lib.hid hrw; have HZZ := Lib.hid hzz; have HBB := Lib.hid hbb; have HRR := Lib.hid hrr
    clear hrw hzz hbb hrr
    generalize putR (filled (fun _ => 0) (lenW m) 0) 0 m on = ws' at e cp
    have hmk := fun W => run_make_row' (P := Tryd.prog) 22 58 (.int .u64 0) 8 Tryd.underlying22 info_u64 rfl .i64 .i64 (lenW m) (by omega) (by omega) W
    have cl := fun W => length_any m (by omega) W
    generalize hLM : lenW m = L at *
    have E := Lib.hid e; have CP := Lib.hid cp; have CL := Lib.hid cl
    clear e cp hp hv cl hLM hlt0 h0
    go_enter Tryd.func15, Tryd.ntmps15
    go_wp2_with (first
      | (go_at_call 50; refine (CL.out _).mono ?_; rintro e w1 ⟨rfl, rfl⟩)
      | (go_at_call 51; refine (CP.out _ _ (HRW.out _ _)).mono ?_; rintro e w2 ⟨p2, c2, rfl, hwa, hna, hb⟩; have HB2 := Lib.hid ((HBB.out _ _ _).trans (hb.mono (by rw [HZZ.out]; omega))); have HWA := Lib.hid hwa; have HNA := Lib.hid (fun g off e => by have := hna g off e; rw [HZZ.out] at this; exact this); obtain ⟨k0, k1, f0, f1, lt⟩ := (HRR.out _ _).below hb; clear hb hwa hna CP))
    refine bodyPost_ret (v := .tuple #[.agg #[.int .i64 m, .slice p2 ws'.length c2], .int .i64 0]) (by simp [results, Tryd.results15, go_sem, k0, k1, f0, f1]) rfl ?_
    exact btPost_mk E.out (HWA.out.set2 (fun g off e h => by have := HNA.out g off e; omega) _ _) (set2B HB2.out (by omega) _ _)
end Go.Proofs.YtocgdibadcmnfaaDoor
