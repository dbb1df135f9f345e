/- bits: put, Set, New. -/
import Derived.Test.YtocgdibadcmnfaaDoorBtSelect
import Derived.Deep.OwnRows
import Derived.Laws.AppendOwn
namespace Go.Proofs.YtocgdibadcmnfaaDoor
open Go.RowKit

theorem info_u64 : (Tryd.prog.info? 58).map (fun i => (i.zero, i.size, i.bytes)) = some (some (.int .u64 0), 1, 8) := by kernel_rfl
def wordsC (ws : List Nat) : Array Value := (ws.map wordC).toArray
/-- The first k of n words are done, the others are zero. -/
def filled (F : Nat → Nat) (n k : Nat) : List Nat := (List.range n).map fun q => if q < k then F q else 0
theorem filled_len (F : Nat → Nat) (n k : Nat) : (filled F n k).length = n := by simp [filled]
theorem filled_get (F : Nat → Nat) (n k q : Nat) (h : q < n) : (wordsC (filled F n k))[q]? = some (wordC (if q < k then F q else 0)) := by
  unfold wordsC filled
  simp [h]
theorem filled_set (F : Nat → Nat) (n k : Nat) (v : Value) (hk : k < n) (hv : v = wordC (F k)) : (wordsC (filled F n k)).setIfInBounds k v = wordsC (filled F n (k + 1)) := by
  subst hv
  apply Array.ext_getElem?
  intro q
  rw [Array.getElem?_setIfInBounds]
  have hz : (wordsC (filled F n k)).size = n := by simp [wordsC, filled]
  by_cases hq : q < n
  · rw [filled_get F n k q hq, filled_get F n (k + 1) q hq]
    by_cases he : k = q
    · subst he; simp [hz, hq]
    · rw [if_neg he]
      have : (q < k + 1) ↔ q < k := by omega
      simp only [this]
  · have h1 : (wordsC (filled F n k))[q]? = none := Array.getElem?_eq_none (by rw [hz]; omega)
    have h2 : (wordsC (filled F n (k + 1)))[q]? = none := Array.getElem?_eq_none (by simp [wordsC, filled]; omega)
    rw [h1, h2, if_neg (by omega)]
theorem filled_set2 (F : Nat → Nat) (n k : Nat) (u v : Value) (hk : k < n) (hv : v = wordC (F k)) : ((wordsC (filled F n k)).setIfInBounds k u).setIfInBounds k v = wordsC (filled F n (k + 1)) := by
  rw [← filled_set F n k v hk hv]
  apply Array.ext_getElem?
  intro q
  simp only [Array.getElem?_setIfInBounds, Array.size_setIfInBounds]
  by_cases he : k = q <;> simp [he]
theorem filled_zero (F : Nat → Nat) (n : Nat) : madeCells #[.int .u64 0] n = wordsC (filled F n 0) := by
  apply Array.ext
  · simp [wordsC, filled, madeCells]
  · intro i h1 h2
    have h3 : i % 1 = 0 := Nat.mod_one i
    simp [wordsC, filled, madeCells, h3, wordC]
theorem filled_all (F : Nat → Nat) (n : Nat) : filled F n n = (List.range n).map F := by
  unfold filled
  apply List.map_congr_left
  intro q hq
  rw [if_pos (List.mem_range.1 hq)]
theorem heap_set {W : World} {B i : Nat} {cs : Array Value} {t : TypeId} (v : Value) (h : W.heap[B]? = some (.cells cs t (0, 0))) : (W.setCell ⟨B, i, none⟩ v).heap[B]? = some (.cells (cs.setIfInBounds i v) t (0, 0)) := by
  obtain ⟨hlt, h'⟩ := Array.getElem?_eq_some_iff.1 h
  show (W.heap.modify B _)[B]? = _
  rw [Array.getElem?_eq_getElem (by simpa using hlt), Array.getElem_modify_self, h']
  rfl
theorem row_cell {W : World} {B i : Nat} {cs : Array Value} {t : TypeId} {v : Value} (h : W.heap[B]? = some (.cells cs t (0, 0))) (hv : cs[i]? = some v) : W.cell? ⟨B, i, none⟩ = some v := by
  unfold World.cell?; simp only [h]; exact hv
theorem row_free {W : World} {B i : Nat} {cs : Array Value} {t : TypeId} (h : W.heap[B]? = some (.cells cs t (0, 0))) : W.frozen? ⟨B, i, none⟩ = false := by
  unfold World.frozen?; simp only [h]; simp
theorem words_of_row {W : World} {B : Nat} {ws : List Nat} (h : W.heap[B]? = some (.cells (wordsC ws) 58 (0, 0))) (hlm : ws.length ≤ maxLen) (hlt : ∀ x ∈ ws, x < 2 ^ 64) : WordsAt W (some ⟨B, 0, none⟩) ws :=
  ⟨hlm, hlt, fun _ => ⟨B, 0, rfl, (Array.getElem?_eq_some_iff.1 h).1, fun j hj => row_cell h (by rw [Nat.zero_add]; simp [wordsC, wordC, hj])⟩⟩
/-- Words that the call made: their block is new. -/
def NewAt (b : Nat) (p : Option Addr) : Prop := ∀ g off, p = some ⟨g, off, none⟩ → b ≤ g
/-- What a function returns that makes bits. -/
def MadePost (n : Nat) (ws : List Nat) (w : World) (e : Ending) (w' : World) : Prop := ∃ p cap, e = .returned (.agg #[.int .i64 (n : Int), .slice p ws.length cap]) ∧ WordsAt w' p ws ∧ NewAt w.heap.size p ∧ Below w.heap.size w w'
/-- A word with a run of ones, or of zeros. -/
def putW (x k a b : Nat) (on : Bool) : Nat := if on then (x &&& (top - maskR k a b)) ||| maskR k a b else x &&& (top - maskR k a b)
def putR (ws : List Nat) (a b : Nat) (on : Bool) : List Nat := (List.range ws.length).map fun k => putW (ws[k]?.getD 0) k a b on
theorem putW_lt (x k a b : Nat) (on : Bool) : putW x k a b on < 2 ^ 64 := by
  have h : x &&& (top - maskR k a b) < 2 ^ 64 := Nat.and_lt_two_pow _ (by unfold top; omega)
  unfold putW; split
  · exact Nat.or_lt_two_pow h (mask_lt _ _ _)
  · exact h
theorem putR_len (ws : List Nat) (a b : Nat) (on : Bool) : (putR ws a b on).length = ws.length := by simp [putR]
theorem put_bits {n : Nat} {ws : List Nat} (h : Valid n ws) {a b : Nat} (hb : b ≤ n) (on : Bool) : putR ws a b on = packR n fun i => if a ≤ i ∧ i < b then on else bitN ws i := by
  have hbit : ∀ i, bitN (putR ws a b on) i = if a ≤ i ∧ i < b then on else bitN ws i := by
    intro i
    have hj : i % 64 < 64 := Nat.mod_lt _ (by decide)
    by_cases hi : i / 64 < ws.length
    · have e : bitN (putR ws a b on) i = (putW ws[i / 64] (i / 64) a b on).testBit (i % 64) := by
        unfold bitN putR
        rw [List.getElem?_map, List.getElem?_range hi]
        simp only [Option.map_some, Option.getD_some, List.getElem?_eq_getElem hi]
      have e2 : bitN ws i = ws[i / 64].testBit (i % 64) := bitN_in hi
      have hm : (maskR (i / 64) a b).testBit (i % 64) = decide (a ≤ i ∧ i < b) := by
        rw [mask_bit]; apply decide_eq_decide.2; omega
      have hn : (top - maskR (i / 64) a b).testBit (i % 64) = !decide (a ≤ i ∧ i < b) := by rw [not_bit (mask_lt _ _ _), hm]; simp [hj]
      rw [e, e2]
      unfold putW
      by_cases hw : a ≤ i ∧ i < b
      · rw [if_pos hw]
        cases on
        · simp [hn, hw]
        · simp [hn, hm, hw]
      · rw [if_neg hw]
        cases on
        · simp [hn, hw]
        · simp [hn, hm, hw]
    · have h1 : bitN (putR ws a b on) i = false := bitN_out (by rw [putR_len]; omega)
      have h2 : bitN ws i = false := bitN_out (by omega)
      have := valid_room h
      rw [h1, h2, if_neg (by omega)]
  have hv : Valid n (putR ws a b on) := by
    refine ⟨h.le, by rw [putR_len]; exact h.len, ?_, ?_⟩
    · intro x hx
      obtain ⟨k, _, rfl⟩ := List.mem_map.1 hx
      exact putW_lt _ _ _ _ _
    · intro i hi
      rw [hbit, if_neg (by omega), h.clear i hi]
  exact valid_pack hv fun i _ => hbit i
/-- What holds at the head of a round of put: the box of the argument, the result's own block, the words. -/
structure PutInv (w W : World) (m : Int) (s : Value) (row : List Nat) : Prop where
  below : Below w.heap.size w W
  box : BoxAt W w.heap.size m s
  res : W.heap[w.heap.size + 1]? = some (.cells #[.int .i64 0, .slice none 0 0] 24 (0, 0))
  row : W.heap[w.heap.size + 1 + 1]? = some (.cells (wordsC row) 58 (0, 0))
theorem putInv_start (w : World) (m : Int) (s : Value) (F : Nat → Nat) (n : Nat) : PutInv w (((w.alloc (.cells #[.int .i64 m, s] 24)).alloc (.cells #[.int .i64 0, .slice none 0 0] 24)).alloc (.cells (madeCells #[.int .u64 0] n) 58)) m s (filled F n 0) := by
  have s1 : ∀ (o1 : Obj), (w.alloc o1).heap.size = w.heap.size + 1 := fun _ => by simp
  have s2 : ∀ (o1 o2 : Obj), ((w.alloc o1).alloc o2).heap.size = w.heap.size + 1 + 1 := fun _ _ => by simp
  refine ⟨(((Below.refl _ _).alloc (Nat.le_refl _) _).alloc (by simp) _).alloc (by simp; omega) _, ?_, ?_, ?_⟩
  · refine (BoxAt.new w m s 24).below ((Below.refl _ _).alloc (Nat.le_refl _) _) |>.below ((Below.refl _ _).alloc (Nat.le_refl _) _)
  · rw [Below.heap_alloc _ _ _ (by rw [s2]; omega)]
    have := heap_alloc_new (w.alloc (.cells #[.int .i64 m, s] 24)) (.cells #[.int .i64 0, .slice none 0 0] 24)
    rw [s1] at this; exact this
  · rw [← filled_zero]
    have := heap_alloc_new ((w.alloc (.cells #[.int .i64 m, s] 24)).alloc (.cells #[.int .i64 0, .slice none 0 0] 24)) (.cells (madeCells #[.int .u64 0] n) 58)
    rw [s2] at this; exact this
theorem PutInv.step {w W : World} {m : Int} {s : Value} {row row' : List Nat} {k : Nat} (h : PutInv w W m s row) (v : Value) (hr : (wordsC row).setIfInBounds k v = wordsC row') : PutInv w (W.setCell ⟨w.heap.size + 1 + 1, k, none⟩ v) m s row' := by
  have hb : Below (w.heap.size + 1 + 1) W (W.setCell ⟨w.heap.size + 1 + 1, k, none⟩ v) := Below.setCell (p := ⟨w.heap.size + 1 + 1, k, none⟩) (Below.refl _ _) (Nat.le_refl _) v
  have hz := (Array.getElem?_eq_some_iff.1 h.row).1
  refine ⟨h.below.trans (hb.mono (by omega)), ⟨(hb.cell (p := ⟨w.heap.size, 0, none⟩) (by show w.heap.size < w.heap.size + 1 + 1; omega)).trans h.box.c0, (hb.cell (p := ⟨w.heap.size, 1, none⟩) (by show w.heap.size < w.heap.size + 1 + 1; omega)).trans h.box.c1, by have := h.box.lt; simpa [World.setCell] using this⟩, (hb.block _ (by omega)).trans h.res, ?_⟩
  rw [heap_set _ h.row, hr]
theorem PutInv.step2 {w W : World} {m : Int} {s : Value} {row row' : List Nat} {k : Nat} (h : PutInv w W m s row) (u v : Value) (hr : ((wordsC row).setIfInBounds k u).setIfInBounds k v = wordsC row') : PutInv w ((W.setCell ⟨w.heap.size + 1 + 1, k, none⟩ u).setCell ⟨w.heap.size + 1 + 1, k, none⟩ v) m s row' := by
  have hb : Below (w.heap.size + 1 + 1) W ((W.setCell ⟨w.heap.size + 1 + 1, k, none⟩ u).setCell ⟨w.heap.size + 1 + 1, k, none⟩ v) := Below.setCell (p := ⟨w.heap.size + 1 + 1, k, none⟩) (Below.setCell (p := ⟨w.heap.size + 1 + 1, k, none⟩) (Below.refl _ _) (Nat.le_refl _) u) (Nat.le_refl _) v
  have hz := (Array.getElem?_eq_some_iff.1 h.row).1
  refine ⟨h.below.trans (hb.mono (by omega)), ⟨(hb.cell (p := ⟨w.heap.size, 0, none⟩) (by show w.heap.size < w.heap.size + 1 + 1; omega)).trans h.box.c0, (hb.cell (p := ⟨w.heap.size, 1, none⟩) (by show w.heap.size < w.heap.size + 1 + 1; omega)).trans h.box.c1, by have := h.box.lt; simpa [World.setCell] using this⟩, (hb.block _ (by omega)).trans h.res, ?_⟩
  rw [heap_set _ (heap_set _ h.row), hr]

set_option maxHeartbeats 2000000 in
set_option maxRecDepth 100000 in
theorem put_any (m : Nat) (p : Option Addr) (cap : Nat) (ws : List Nat) (a b : Nat) (on : Bool) (w : World) (h : WordsAt w p ws) (hl : ws.length ≤ 64) (ha : a ≤ 5000) (hb : b ≤ 5000) :
    Calls Tryd.prog 51 #[.agg #[.int .i64 (m : Int), .slice p ws.length cap], .int .i64 (a : Int), .int .i64 (b : Int), .bool on] w (MadePost m (putR ws a b on) w) := by
  have hmk := fun W => run_make_row' (P := Tryd.prog) 22 58 (.int .u64 0) 8 Tryd.underlying22 info_u64 rfl .i64 .i64 ws.length (by omega) (by omega) W
  obtain ⟨F, hF⟩ : ∃ F : Nat → Nat, F = fun k => putW (ws[k]?.getD 0) k a b on := ⟨_, rfl⟩
  have hall : putR ws a b on = filled F ws.length ws.length := by rw [filled_all, hF]; rfl
  have HALL := Lib.hid hall; have HW := Lib.hid h; have HF := Lib.hid hF
  clear hall h hF
  go_enter Tryd.func51, Tryd.ntmps51
  go_wp2_with fail
  clear hmk
  go_loopg [20] ws.length (fun n i wr => ∃ k : Nat, k + n = ws.length ∧ i = .int .i64 k ∧ PutInv w wr m (.slice p ws.length cap) (filled F ws.length k))
  case atStart => exact ⟨0, by omega, by go_num, putInv_start _ _ _ _ _⟩
  case round =>
    obtain ⟨k, hkn, rfl, hinv⟩ := hrel
    have hrow := hinv.row
    by_cases hlt : k < ws.length
    · obtain ⟨n', rfl⟩ : ∃ n', gk = n' + 1 := ⟨gk - 1, by omega⟩
      obtain ⟨g, off, rfl, hg, hcw⟩ := HW.out.at_ (by omega)
      have c0 := (hinv.below.cell (p := ⟨g, off + k, none⟩) hg).trans (hcw k hlt)
      have hx := word_in HW.out.lt k hlt
      have kr := row_cell hrow (filled_get F ws.length k k hlt)
      have kf : wr.frozen? ⟨w.heap.size + 1 + 1, k, none⟩ = false := row_free hrow
      have ik : (k : Int) < ws.length := by omega
      have cm := fun W => mask_any k a b (by omega) (by omega) (by omega) W
      have hFk : F k = putW ws[k] k a b on := by rw [HF.out]; simp [hlt]
      have e1 := u64_andNot_nat ws[k] (maskR k a b) hx (mask_lt _ _ _)
      have e2 := u64_or_nat (ws[k] &&& (top - maskR k a b)) (maskR k a b) (Nat.and_lt_two_pow (n := 64) _ (by unfold top; omega)) (mask_lt _ _ _)
      rw [show 18446744073709551615 - maskR k a b = top - maskR k a b from rfl] at e1
      have hstep := fun v hv => filled_set F ws.length k v hlt hv
      have hstep2 := fun u v hv => filled_set2 F ws.length k u v hlt hv
      unfold putW at hFk
      generalize ws[k] = x at c0 hx e1 e2 hFk
      generalize maskR k a b = M at cm e1 e2 hFk
      generalize x &&& (top - M) = y at e1 e2 hFk
      have CM := Lib.hid cm; have HI := Lib.hid hinv; have E1 := Lib.hid e1; have E2 := Lib.hid e2; have HFK := Lib.hid hFk; have HS := Lib.hid hstep; have HS2 := Lib.hid hstep2
      clear cm hinv e1 e2 hFk hrow hcw hstep hstep2
      cases on
      · go_wp2_with (go_at_call 53; refine (CM.out _).mono ?_; rintro e w' ⟨rfl, rfl⟩)
        go_roundg n'
        case measure => omega
        case rel => exact ⟨k + 1, by omega, by go_num, HI.out.step _ (HS.out _ (by rw [HFK.out, E1.out]; rfl))⟩
      · go_wp2_with (go_at_call 53; refine (CM.out _).mono ?_; rintro e w' ⟨rfl, rfl⟩)
        go_roundg n'
        case measure => omega
        case rel => exact ⟨k + 1, by omega, by go_num, HI.out.step2 _ _ (HS2.out _ _ (by rw [HFK.out, E1.out, E2.out]; rfl))⟩
    · obtain rfl : k = ws.length := by omega
      rw [← HALL.out] at hrow
      have k0 := row_cell (i := 0) (v := .int .i64 0) hinv.res rfl
      have k1 := row_cell (i := 1) (v := .slice none 0 0) hinv.res rfl
      have f0 : wr.frozen? ⟨w.heap.size + 1, 0, none⟩ = false := row_free hinv.res
      have f1 : wr.frozen? ⟨w.heap.size + 1, 1, none⟩ = false := row_free hinv.res
      have b0 := hinv.box.c0
      have HI := Lib.hid hinv; have HROW := Lib.hid hrow
      clear hinv hrow
      go_wp2_with fail
      refine bodyPost_ret (v := .agg #[.int .i64 (m : Int), .slice (some ⟨w.heap.size + 1 + 1, 0, none⟩) ws.length ws.length]) (by simp [results, Tryd.results51, go_sem, k0, k1, f0, f1]) rfl ?_
      have hb : Below (w.heap.size + 1) wr ((wr.setCell ⟨w.heap.size + 1, 0, none⟩ (.int .i64 (m : Int))).setCell ⟨w.heap.size + 1, 1, none⟩ (.slice (some ⟨w.heap.size + 1 + 1, 0, none⟩) ws.length ws.length)) :=
        Below.setCell (p := ⟨w.heap.size + 1, 1, none⟩) (Below.setCell (p := ⟨w.heap.size + 1, 0, none⟩) (Below.refl _ _) (Nat.le_refl _) _) (Nat.le_refl _) _
      refine ⟨some ⟨w.heap.size + 1 + 1, 0, none⟩, ws.length, by rw [putR_len], words_of_row ?_ (by rw [putR_len]; unfold maxLen; omega) (fun x hx => ?_), (fun g off e => by cases e; omega), HI.out.below.trans (hb.mono (by omega))⟩
      · rw [Below.heap_setCell _ _ _ _ (by simp), Below.heap_setCell _ _ _ _ (by simp)]; exact HROW.out
      · obtain ⟨k, _, rfl⟩ := List.mem_map.1 hx
        exact putW_lt _ _ _ _ _
end Go.Proofs.YtocgdibadcmnfaaDoor
