/- bits: Flip. -/
import Derived.Test.YtocgdibadcmnfaaDoorBtSet
namespace Go.Proofs.YtocgdibadcmnfaaDoor
open Go.RowKit

theorem BoxAt.under {W W' : World} {B b : Nat} {n : Int} {s : Value} (h : BoxAt W B n s) (hb : Below b W W') (hB : B < b) : BoxAt W' B n s :=
  ⟨(hb.cell (p := ⟨B, 0, none⟩) hB).trans h.c0, (hb.cell (p := ⟨B, 1, none⟩) hB).trans h.c1, Nat.lt_of_lt_of_le h.lt hb.size⟩
/-- What holds between two rounds where words are made: the result's own block, the words. -/
structure MInv (w W : World) (Bs Br : Nat) (row : List Nat) : Prop where
  below : Below w.heap.size w W
  res : W.heap[Bs]? = some (.cells #[.int .i64 0, .slice none 0 0] 24 (0, 0))
  row : W.heap[Br]? = some (.cells (wordsC row) 58 (0, 0))
  lo : w.heap.size ≤ Bs
  lt : Bs < Br
theorem MInv.call {w W W' : World} {Bs Br : Nat} {row : List Nat} (h : MInv w W Bs Br row) (hb : Below W.heap.size W W') : MInv w W' Bs Br row :=
  ⟨h.below.trans (hb.mono h.below.size), (hb.block _ (Array.getElem?_eq_some_iff.1 h.res).1).trans h.res, (hb.block _ (Array.getElem?_eq_some_iff.1 h.row).1).trans h.row, h.lo, h.lt⟩
theorem set_under (W : World) (Br k : Nat) (v : Value) : Below Br W (W.setCell ⟨Br, k, none⟩ v) := Below.setCell (p := ⟨Br, k, none⟩) (Below.refl _ _) (Nat.le_refl _) v
theorem MInv.step {w W : World} {Bs Br : Nat} {row row' : List Nat} {k : Nat} (h : MInv w W Bs Br row) (v : Value) (hr : (wordsC row).setIfInBounds k v = wordsC row') : MInv w (W.setCell ⟨Br, k, none⟩ v) Bs Br row' :=
  ⟨h.below.trans ((set_under W Br k v).mono (Nat.le_of_lt (Nat.lt_of_le_of_lt h.lo h.lt))), ((set_under W Br k v).block _ h.lt).trans h.res, by rw [heap_set _ h.row, hr], h.lo, h.lt⟩
theorem MInv.end_ {w W : World} {Bs Br : Nat} {row : List Nat} (h : MInv w W Bs Br row) (hlm : row.length ≤ maxLen) (hlt : ∀ x ∈ row, x < 2 ^ 64) (u v : Value) :
    WordsAt ((W.setCell ⟨Bs, 0, none⟩ u).setCell ⟨Bs, 1, none⟩ v) (some ⟨Br, 0, none⟩) row ∧ Below w.heap.size w ((W.setCell ⟨Bs, 0, none⟩ u).setCell ⟨Bs, 1, none⟩ v) := by
  have hl := h.lt
  refine ⟨words_of_row ?_ hlm hlt, set2B h.below h.lo _ _⟩
  rw [Below.heap_setCell _ _ _ _ (by simp; omega), Below.heap_setCell _ _ _ _ (by simp; omega)]; exact h.row
theorem mInv_start {w w1 : World} {Bs : Nat} (F : Nat → Nat) (n : Nat) (hb : Below w.heap.size w w1) (h0 : w.heap.size ≤ Bs) (hr : w1.heap[Bs]? = some (.cells #[.int .i64 0, .slice none 0 0] 24 (0, 0))) :
    MInv w (w1.alloc (.cells (madeCells #[.int .u64 0] n) 58)) Bs w1.heap.size (filled F n 0) := by
  have hlt := (Array.getElem?_eq_some_iff.1 hr).1
  have ha : Below w1.heap.size w1 (w1.alloc (.cells (madeCells #[.int .u64 0] n) 58)) := (Below.refl _ _).alloc (Nat.le_refl _) _
  refine ⟨hb.trans (ha.mono hb.size), (ha.block _ hlt).trans hr, ?_, h0, hlt⟩
  rw [← filled_zero]; exact heap_alloc_new _ _
/-- The same, and that the words lie in a new block. -/
def BtNew (r : (Nat × List Nat) × Int) (w : World) (e : Ending) (w' : World) : Prop := ∃ p cap, e = .returned (.tuple #[.agg #[.int .i64 (r.1.1 : Int), .slice p r.1.2.length cap], .int .i64 r.2]) ∧ WordsAt w' p r.1.2 ∧ NewAt w.heap.size p ∧ Below w.heap.size w w'
theorem btNew_mk {r : (Nat × List Nat) × Int} {n : Nat} {ws : List Nat} {c : Int} {p : Option Addr} {cap : Nat} {w w' : World} (h : r = ((n, ws), c)) (hw : WordsAt w' p ws) (hn : NewAt w.heap.size p) (hb : Below w.heap.size w w') :
    BtNew r w (.returned (.tuple #[.agg #[.int .i64 (n : Int), .slice p ws.length cap], .int .i64 c])) w' := ⟨p, cap, by rw [h], by rw [h]; exact hw, hn, hb⟩
theorem btNew_err {r : (Nat × List Nat) × Int} {c : Int} {w w' : World} (h : r = ((0, []), c)) (hb : Below w.heap.size w w') :
    BtNew r w (.returned (.tuple #[.agg #[.int .i64 0, .slice none 0 0], .int .i64 c])) w' := ⟨none, 0, by rw [h]; rfl, by rw [h]; exact WordsAt.none_ _ _, (fun _ _ e => by cases e), hb⟩
theorem BtNew.post {r : (Nat × List Nat) × Int} {w w' : World} {e : Ending} (h : BtNew r w e w') : BtPost r w e w' := by
  obtain ⟨p, cap, h1, h2, _, h4⟩ := h
  exact ⟨p, cap, h1, h2, h4⟩
def flipW (ws : List Nat) (m : Nat) (k : Nat) : Nat := soughtR (ws[k]?.getD 0) k 0 m false
theorem flip_bits {m : Nat} {ws : List Nat} (h : Valid m ws) : (List.range ws.length).map (flipW ws m) = packR m fun i => !bitN ws i := by
  have hbit : ∀ i, i / 64 < ws.length → bitN ((List.range ws.length).map (flipW ws m)) i = (!bitN ws i && decide (i < m)) := by
    intro i hi
    have hj : i % 64 < 64 := Nat.mod_lt _ (by decide)
    have e : bitN ((List.range ws.length).map (flipW ws m)) i = (flipW ws m (i / 64)).testBit (i % 64) := by
      unfold bitN
      rw [List.getElem?_map, List.getElem?_range hi]; rfl
    rw [e]
    unfold flipW
    rw [List.getElem?_eq_getElem hi, Option.getD_some, sought_bit hi (word_in h.lt _ hi)]
    unfold inWin onB
    rw [show 64 * (i / 64) + i % 64 = i by omega]
    cases bitN ws i <;> simp [hj]
  have hr := valid_room h
  refine valid_pack ⟨h.le, by simp [h.len], ?_, fun i hi => ?_⟩ fun i hi => ?_
  · intro x hx
    obtain ⟨k, _, rfl⟩ := List.mem_map.1 hx
    exact sought_lt _ _ _ _ _
  · by_cases hl : i / 64 < ws.length
    · rw [hbit i hl]; simp; omega
    · exact bitN_out (by simp; omega)
  · rw [hbit i (by omega)]; simp [hi]
def flipR (n : Int) (ws : List Nat) : (Nat × List Nat) × Int := if checkR n ws ≠ 0 then ((0, []), checkR n ws) else ((n.toNat, packR n.toNat fun i => !bitN ws i), 0)
set_option maxHeartbeats 2000000 in
set_option maxRecDepth 100000 in
theorem flip_any (n : Int) (p : Option Addr) (cap : Nat) (ws : List Nat) (w : World) (h : WordsAt w p ws) :
    Calls Tryd.prog 47 #[.agg #[.int .i64 n, .slice p ws.length cap]] w (BtNew (flipR n ws) w) := by
  have ck := fun W (hW : Below w.heap.size w W) => check_any n p cap ws W (h.below hW)
  have e : flipR n ws = if checkR n ws ≠ 0 then ((0, []), checkR n ws) else ((n.toNat, packR n.toNat fun i => !bitN ws i), 0) := rfl
  have hok := checkR_ok (n := n) h.lt
  have HW := Lib.hid h
  generalize checkR n ws = c at ck e hok
  generalize flipR n ws = r at e
  have CK := Lib.hid ck; clear ck h
  have hz2 : ∀ (o1 o2 : Obj), ((w.alloc o1).alloc o2).heap.size = w.heap.size + 1 + 1 := fun _ _ => by simp
  have hb2 : ∀ (o1 o2 : Obj), Below w.heap.size w ((w.alloc o1).alloc o2) := fun o1 o2 => ((Below.refl _ _).alloc (Nat.le_refl _) _).alloc (by simp) _
  have HZ2 := Lib.hid hz2; have HBB := Lib.hid hb2
  clear hz2 hb2
  by_cases hc : c ≠ 0
  · rw [if_pos hc] at e
    obtain ⟨t1, t2⟩ := neq0 hc
    have E := Lib.hid e; clear e hc hok
    go_enter Tryd.func47, Tryd.ntmps47
    go_wp2_with (go_at_call 19; refine (CK.out _ (HBB.out _ _)).mono ?_; rintro e w1 ⟨rfl, hb⟩; have HB := Lib.hid ((HBB.out _ _).trans (hb.mono (by rw [HZ2.out]; omega))); obtain ⟨k0, k1, f0, f1, lt⟩ := (Res2.new1 w _ (.int .i64 0) (.slice none 0 0) 24).below hb; clear hb)
    refine bodyPost_ret (v := .tuple #[.agg #[.int .i64 0, .slice none 0 0], .int .i64 c]) (by simp [results, Tryd.results47, go_sem, k0, k1, f0, f1]) rfl ?_
    exact btNew_err E.out (set2B HB.out (by omega) _ _)
  · rw [if_neg hc] at e
    obtain rfl : c = 0 := Classical.not_not.1 hc
    obtain ⟨hn0, hv⟩ := hok rfl
    obtain ⟨m, rfl⟩ : ∃ m : Nat, n = (m : Int) := ⟨n.toNat, by omega⟩
    rw [Int.toNat_natCast] at e hv
    obtain ⟨hr1, hr2⟩ := valid_room hv
    have hm := hv.le
    have hp := flip_bits hv
    rw [← hp, ← filled_all] at e
    have hmk := fun W => run_make_row' (P := Tryd.prog) 22 58 (.int .u64 0) 8 Tryd.underlying22 info_u64 rfl .i64 .i64 ws.length (by omega) (by omega) W
    have E := Lib.hid e
    clear e hp hc hok hv hn0
    go_enter Tryd.func47, Tryd.ntmps47
    go_wp2_with (go_at_call 19; refine (CK.out _ (HBB.out _ _)).mono ?_; rintro e w1 ⟨rfl, hb⟩; have HB := Lib.hid ((HBB.out _ _).trans (hb.mono (by rw [HZ2.out]; omega))); have HX := Lib.hid ((BoxAt.new1 w m (.slice p ws.length cap) 24 (.cells #[.int .i64 0, .slice none 0 0] 24)).below hb); have hres := (hb.block (w.heap.size + 1) (by rw [HZ2.out]; omega)).trans (show _ = some (Obj.cells #[.int .i64 0, .slice none 0 0] 24 (0, 0)) from (by have := heap_alloc_new (w.alloc (.cells #[.int .i64 m, .slice p ws.length cap] 24)) (.cells #[.int .i64 0, .slice none 0 0] 24); rwa [show (w.alloc (.cells #[.int .i64 m, .slice p ws.length cap] 24)).heap.size = w.heap.size + 1 by simp] at this)); have HRS := Lib.hid hres; have b0 := HX.out.c0; have b1 := HX.out.c1; clear hb CK hres)
    clear hmk b0 b1
    go_loopg [19] ws.length (fun n i wr => ∃ k : Nat, k + n = ws.length ∧ i = .int .i64 k ∧ MInv w wr (w.heap.size + 1) w1.heap.size (filled (flipW ws m) ws.length k) ∧ BoxAt wr w.heap.size m (.slice p ws.length cap))
    case atStart => exact ⟨0, by omega, by go_num, mInv_start _ _ HB.out (by omega) HRS.out, HX.out.below ((Below.refl _ _).alloc (Nat.le_refl _) _)⟩
    case round =>
      obtain ⟨k, hkn, rfl, hinv, hbx⟩ := hrel
      have hrow := hinv.row
      by_cases hlt : k < ws.length
      · obtain ⟨n', rfl⟩ : ∃ n', gk = n' + 1 := ⟨gk - 1, by omega⟩
        have cs := sought_any m p cap ws k 0 m false wr (HW.out.below hinv.below) hlt (by omega) (by omega) (by omega)
        unfold WordPost at cs
        rw [show ((0 : Nat) : Int) = 0 from rfl] at cs
        have ik : (k : Int) < ws.length := by omega
        have hF : flipW ws m k = soughtR ws[k] k 0 m false := by unfold flipW; rw [List.getElem?_eq_getElem hlt]; rfl
        have hs := fun v hv => filled_set (flipW ws m) ws.length k v hlt hv
        rw [hF] at hs
        have hlB := hinv.lt
        have hB1 := HX.out.lt
        generalize soughtR ws[k] k 0 m false = y at cs hs
        have b0 := hbx.c0; have b1 := hbx.c1
        have HI := Lib.hid hinv; have HBX := Lib.hid hbx; have HS := Lib.hid hs; have CS := Lib.hid cs
        clear hinv hbx hs cs hF hrow
        go_wp2_with (go_at_call 59; refine (CS.out).mono ?_; rintro e w2 ⟨rfl, hb⟩; have HI2 := Lib.hid (HI.out.call hb); have HBX2 := Lib.hid (HBX.out.below hb); have kr := row_cell HI2.out.row (filled_get (flipW ws m) ws.length k k hlt); have kf : w2.frozen? ⟨w1.heap.size, k, none⟩ = false := row_free HI2.out.row; clear hb)
        go_roundg n'
        case measure => omega
        case rel => exact ⟨k + 1, by omega, by go_num, HI2.out.step _ (HS.out _ rfl), HBX2.out.under (set_under _ _ _ _) (by omega)⟩
      · obtain rfl : k = ws.length := by omega
        have k0 := row_cell (i := 0) (v := .int .i64 0) hinv.res rfl
        have k1 := row_cell (i := 1) (v := .slice none 0 0) hinv.res rfl
        have f0 : wr.frozen? ⟨w.heap.size + 1, 0, none⟩ = false := row_free hinv.res
        have f1 : wr.frozen? ⟨w.heap.size + 1, 1, none⟩ = false := row_free hinv.res
        have b0 := hbx.c0
        have HI := Lib.hid hinv
        have hzw := HB.out.size
        clear hinv hrow hbx
        go_wp2_with fail
        refine bodyPost_ret (v := .tuple #[.agg #[.int .i64 (m : Int), .slice (some ⟨w1.heap.size, 0, none⟩) ws.length ws.length], .int .i64 0]) (by simp [results, Tryd.results47, go_sem, k0, k1, f0, f1]) rfl ?_
        have hfl := filled_len (flipW ws m) ws.length ws.length
        obtain ⟨hw, hb⟩ := HI.out.end_ (by rw [hfl]; unfold maxLen; omega) (fun x hx => by rw [filled_all] at hx; obtain ⟨k, _, rfl⟩ := List.mem_map.1 hx; exact sought_lt _ _ _ _ _) (.int .i64 (m : Int)) (.slice (some ⟨w1.heap.size, 0, none⟩) ws.length ws.length)
        have := btNew_mk (cap := ws.length) E.out hw (fun g off e => by cases e; omega) hb
        rwa [hfl] at this
end Go.Proofs.YtocgdibadcmnfaaDoor
