/- bits: And, Or, Less. -/
import Derived.Test.YtocgdibadcmnfaaDoorBtFlip
import Derived.Test.YtocgdibadcmnfaaDoorBtFit
namespace Go.Proofs.YtocgdibadcmnfaaDoor
open Go.RowKit

/-- What a function on words does, bit by bit. -/
structure Joins2 (F : Nat) (op : Nat → Nat → Nat) (g : Bool → Bool → Bool) : Prop where
  call : ∀ x y : Nat, x < 18446744073709551616 → y < 18446744073709551616 → ∀ W, Calls Tryd.prog F #[.int .u64 (x : Int), .int .u64 (y : Int)] W fun e w' => e = .returned (.int .u64 ((op x y : Nat) : Int)) ∧ W = w'
  lt : ∀ x y : Nat, x < 18446744073709551616 → y < 18446744073709551616 → op x y < 18446744073709551616
  bit : ∀ x y j : Nat, x < 18446744073709551616 → y < 18446744073709551616 → (op x y).testBit j = g (x.testBit j) (y.testBit j)
  zero : g false false = false
def joinW (op : Nat → Nat → Nat) (ws vs : List Nat) (k : Nat) : Nat := op (ws[k]?.getD 0) (vs[k]?.getD 0)
theorem getD_lt {ws : List Nat} (h : ∀ x ∈ ws, x < 2 ^ 64) (k : Nat) : ws[k]?.getD 0 < 18446744073709551616 := by
  cases e : ws[k]? with
  | none => simp
  | some x => exact h x (List.mem_of_getElem? e)
theorem join_bits {m F : Nat} {op : Nat → Nat → Nat} {g : Bool → Bool → Bool} (hj : Joins2 F op g) {ws vs : List Nat} (h : Valid m ws) (h' : Valid m vs) : (List.range ws.length).map (joinW op ws vs) = packR m fun i => g (bitN ws i) (bitN vs i) := by
  have hbit : ∀ i, bitN ((List.range ws.length).map (joinW op ws vs)) i = g (bitN ws i) (bitN vs i) := by
    intro i
    by_cases hi : i / 64 < ws.length
    · have e : bitN ((List.range ws.length).map (joinW op ws vs)) i = (joinW op ws vs (i / 64)).testBit (i % 64) := by
        unfold bitN
        rw [List.getElem?_map, List.getElem?_range hi]; rfl
      rw [e]
      unfold joinW
      rw [hj.bit _ _ _ (getD_lt h.lt _) (getD_lt h'.lt _)]; rfl
    · rw [bitN_out (by simp; omega), bitN_out (ws := ws) (by omega), bitN_out (ws := vs) (by rw [h'.len, ← h.len]; omega), hj.zero]
  refine valid_pack ⟨h.le, by simp [h.len], ?_, fun i hi => ?_⟩ fun i _ => hbit i
  · intro x hx
    obtain ⟨k, _, rfl⟩ := List.mem_map.1 hx
    exact hj.lt _ _ (getD_lt h.lt _) (getD_lt h'.lt _)
  · rw [hbit, h.clear i hi, h'.clear i hi, hj.zero]
def joinR (g : Bool → Bool → Bool) (n : Int) (ws : List Nat) (n' : Int) (vs : List Nat) : (Nat × List Nat) × Int :=
  if checkR n ws ≠ 0 then ((0, []), checkR n ws) else if checkR n' vs ≠ 0 then ((0, []), checkR n' vs) else if n ≠ n' then ((0, []), 2) else ((n.toNat, packR n.toNat fun i => g (bitN ws i) (bitN vs i)), 0)
theorem Res2.new2 (w : World) (o o' : Obj) (x y : Value) (t : TypeId) : Res2 (((w.alloc o).alloc o').alloc (.cells #[x, y] t)) (w.heap.size + 1 + 1) x y := by
  have := Res2.new ((w.alloc o).alloc o') x y t
  rwa [show ((w.alloc o).alloc o').heap.size = w.heap.size + 1 + 1 by simp] at this
set_option maxHeartbeats 4000000 in
set_option maxRecDepth 100000 in
theorem join_and {op : Nat → Nat → Nat} {g : Bool → Bool → Bool} (hj : Joins2 68 op g) (n : Int) (p : Option Addr) (cap : Nat) (ws : List Nat) (n' : Int) (p' : Option Addr) (cap' : Nat) (vs : List Nat) (w : World) (h : WordsAt w p ws) (h' : WordsAt w p' vs) :
    Calls Tryd.prog 67 #[.agg #[.int .i64 n, .slice p ws.length cap], .agg #[.int .i64 n', .slice p' vs.length cap'], .func (.func 68) #[] #[]] w (BtNew (joinR g n ws n' vs) w) := by
  have ck := fun W (hW : Below w.heap.size w W) => check_any n p cap ws W (h.below hW)
  have cl := fun W (hW : Below w.heap.size w W) => check_any n' p' cap' vs W (h'.below hW)
  have e : joinR g n ws n' vs = if checkR n ws ≠ 0 then ((0, []), checkR n ws) else if checkR n' vs ≠ 0 then ((0, []), checkR n' vs) else if n ≠ n' then ((0, []), 2) else ((n.toNat, packR n.toNat fun i => g (bitN ws i) (bitN vs i)), 0) := rfl
  have hok := checkR_ok (n := n) h.lt
  have hok' := checkR_ok (n := n') h'.lt
  have HW := Lib.hid h; have HW' := Lib.hid h'; have HJ := Lib.hid hj
  generalize checkR n ws = c at ck e hok
  generalize checkR n' vs = d at cl e hok'
  generalize joinR g n ws n' vs = r at e
  have CK := Lib.hid ck; have CL := Lib.hid cl; clear ck cl h h' hj
  have A3 := Lib.hid (fun o1 o2 o3 => alloc3 w o1 o2 o3)
  obtain ⟨oa, hoa⟩ : ∃ o, o = Obj.cells #[.int .i64 n, .slice p ws.length cap] 24 (0, 0) := ⟨_, rfl⟩
  obtain ⟨ob, hob⟩ : ∃ o, o = Obj.cells #[.int .i64 n', .slice p' vs.length cap'] 24 (0, 0) := ⟨_, rfl⟩
  obtain ⟨oc, hoc⟩ : ∃ o, o = Obj.cells #[.int .i64 0, .slice none 0 0] 24 (0, 0) := ⟨_, rfl⟩
  obtain ⟨x1, x2, x3, x4, x5⟩ := A3.out oa ob oc
  have hR0 := Res2.new2 w oa ob (.int .i64 0) (.slice none 0 0) 24
  have hBa : BoxAt (((w.alloc oa).alloc ob).alloc oc) w.heap.size n (.slice p ws.length cap) := by
    rw [hoa] at x3 ⊢
    exact ⟨row_cell x3 rfl, row_cell x3 rfl, by rw [← hoa, x2]; omega⟩
  have hBb : BoxAt (((w.alloc oa).alloc ob).alloc oc) (w.heap.size + 1) n' (.slice p' vs.length cap') := by
    rw [hob] at x4 ⊢
    exact ⟨row_cell x4 rfl, row_cell x4 rfl, by rw [← hob, x2]; omega⟩
  have HX1 := Lib.hid x1; have HX2 := Lib.hid x2; have HX5 := Lib.hid x5; have HR0 := Lib.hid hR0; have HBa := Lib.hid hBa; have HBb := Lib.hid hBb
  clear x1 x2 x3 x4 x5 hR0 hBa hBb
  subst hoa hob hoc
  by_cases hc : c ≠ 0
  · rw [if_pos hc] at e
    obtain ⟨t1, t2⟩ := neq0 hc
    have E := Lib.hid e; clear e hc hok hok'
    go_enter Tryd.func67, Tryd.ntmps67
    go_wp2_with (go_at_call 19; refine (CK.out _ HX1.out).mono ?_; rintro e w1 ⟨rfl, hb⟩; have HB := Lib.hid (HX1.out.trans (hb.mono (by rw [HX2.out]; omega))); obtain ⟨k0, k1, f0, f1, lt⟩ := HR0.out.below hb; clear hb)
    refine bodyPost_ret (v := .tuple #[.agg #[.int .i64 0, .slice none 0 0], .int .i64 c]) (by simp [results, Tryd.results67, go_sem, k0, k1, f0, f1]) rfl ?_
    exact btNew_err E.out (set2B HB.out (by omega) _ _)
  · rw [if_neg hc] at e
    obtain rfl : c = 0 := Classical.not_not.1 hc
    by_cases hd : d ≠ 0
    · rw [if_pos hd] at e
      obtain ⟨t1, t2⟩ := neq0 hd
      have E := Lib.hid e; clear e hc hd hok hok'
      go_enter Tryd.func67, Tryd.ntmps67
      go_wp2_with fail
      refine (CK.out _ HX1.out).mono ?_
      rintro e w1 ⟨rfl, hb⟩
      have HB := Lib.hid (HX1.out.trans (hb.mono (by rw [HX2.out]; omega))); have HR := Lib.hid (HR0.out.below hb); have HBb1 := Lib.hid (HBb.out.below hb)
      clear hb
      have b0 := HBb1.out.c0; have b1 := HBb1.out.c1
      go_wp2_with fail
      refine (CL.out _ HB.out).mono ?_
      rintro e w2 ⟨rfl, hb⟩
      have HB2 := Lib.hid (HB.out.trans (hb.mono HB.out.size))
      obtain ⟨k0, k1, f0, f1, lt⟩ := HR.out.below hb
      clear hb b0 b1
      go_wp2_with fail
      refine bodyPost_ret (v := .tuple #[.agg #[.int .i64 0, .slice none 0 0], .int .i64 d]) (by simp [results, Tryd.results67, go_sem, k0, k1, f0, f1]) rfl ?_
      exact btNew_err E.out (set2B HB2.out (by omega) _ _)
    · rw [if_neg hd] at e
      obtain rfl : d = 0 := Classical.not_not.1 hd
      by_cases hn : n ≠ n'
      · rw [if_pos hn] at e
        have t1 : (n != n') = true := by rw [bne_iff_ne]; exact hn
        have E := Lib.hid e; clear e hc hd hn hok hok'
        go_enter Tryd.func67, Tryd.ntmps67
        go_wp2_with fail
        refine (CK.out _ HX1.out).mono ?_
        rintro e w1 ⟨rfl, hb⟩
        have HB := Lib.hid (HX1.out.trans (hb.mono (by rw [HX2.out]; omega))); have HR := Lib.hid (HR0.out.below hb); have HBb1 := Lib.hid (HBb.out.below hb); have HBa1 := Lib.hid (HBa.out.below hb)
        clear hb
        have b0 := HBb1.out.c0; have b1 := HBb1.out.c1
        go_wp2_with fail
        refine (CL.out _ HB.out).mono ?_
        rintro e w2 ⟨rfl, hb⟩
        have HB2 := Lib.hid (HB.out.trans (hb.mono HB.out.size))
        obtain ⟨k0, k1, f0, f1, lt⟩ := HR.out.below hb
        obtain ⟨a0, a1, _⟩ := HBa1.out.below hb
        clear b0 b1
        obtain ⟨b0, b1, _⟩ := HBb1.out.below hb
        clear hb
        go_wp2_with fail
        refine bodyPost_ret (v := .tuple #[.agg #[.int .i64 0, .slice none 0 0], .int .i64 2]) (by simp [results, Tryd.results67, go_sem, k0, k1, f0, f1]) rfl ?_
        exact btNew_err E.out (set2B HB2.out (by omega) _ _)
      · rw [if_neg hn] at e
        obtain rfl : n = n' := Classical.not_not.1 hn
        obtain ⟨hn0, hv⟩ := hok rfl
        obtain ⟨_, hv'⟩ := hok' rfl
        obtain ⟨m, rfl⟩ : ∃ m : Nat, n = (m : Int) := ⟨n.toNat, by omega⟩
        rw [Int.toNat_natCast] at e hv hv'
        obtain ⟨hr1, hr2⟩ := valid_room hv
        have hm := hv.le
        have hll : vs.length = ws.length := by rw [hv.len, hv'.len]
        have hp := join_bits HJ.out hv hv'
        rw [← hp, ← filled_all] at e
        have hmk := fun W => run_make_row' (P := Tryd.prog) 22 58 (.int .u64 0) 8 Tryd.underlying22 info_u64 rfl .i64 .i64 ws.length (by omega) (by omega) W
        have t1 : ((m : Int) != (m : Int)) = false := by simp
        have E := Lib.hid e; have HLL := Lib.hid hll
        clear e hp hc hd hn hok hok' hv hv' hn0 hll
        go_enter Tryd.func67, Tryd.ntmps67
        go_wp2_with fail
        refine (CK.out _ HX1.out).mono ?_
        rintro e w1 ⟨rfl, hb⟩
        have HB := Lib.hid (HX1.out.trans (hb.mono (by rw [HX2.out]; omega))); have HR := Lib.hid ((hb.block (w.heap.size + 2) (by rw [HX2.out]; omega)).trans HX5.out); have HBb1 := Lib.hid (HBb.out.below hb); have HBa1 := Lib.hid (HBa.out.below hb)
        clear hb
        have b0 := HBb1.out.c0; have b1 := HBb1.out.c1
        go_wp2_with fail
        refine (CL.out _ HB.out).mono ?_
        rintro e w2 ⟨rfl, hb⟩
        have HB2 := Lib.hid (HB.out.trans (hb.mono HB.out.size))
        have HRS := Lib.hid ((hb.block (w.heap.size + 2) (Array.getElem?_eq_some_iff.1 HR.out).1).trans HR.out)
        have HBa2 := Lib.hid (HBa1.out.below hb); have HBb2 := Lib.hid (HBb1.out.below hb)
        clear hb b0 b1
        have hz0 := HBa2.out.lt; have hz1 := HBb2.out.lt
        have a0 := HBa2.out.c0; have a1 := HBa2.out.c1
        have b0 := HBb2.out.c0; have b1 := HBb2.out.c1
        go_wp2_with fail
        clear hmk a0 a1 b0 b1
        go_loopg [38] ws.length (fun n i wr => ∃ k : Nat, k + n = ws.length ∧ i = .int .i64 k ∧ MInv w wr (w.heap.size + 1 + 1) w2.heap.size (filled (joinW op ws vs) ws.length k) ∧ BoxAt wr w.heap.size m (.slice p ws.length cap) ∧ BoxAt wr (w.heap.size + 1) m (.slice p' vs.length cap'))
        case atStart => exact ⟨0, by omega, by go_num, mInv_start _ _ HB2.out (by omega) HRS.out, HBa2.out.below ((Below.refl _ _).alloc (Nat.le_refl _) _), HBb2.out.below ((Below.refl _ _).alloc (Nat.le_refl _) _)⟩
        case round =>
          obtain ⟨k, hkn, rfl, hinv, hba, hbb⟩ := hrel
          have hrow := hinv.row
          by_cases hlt : k < ws.length
          · obtain ⟨n', rfl⟩ : ∃ n', gk = n' + 1 := ⟨gk - 1, by omega⟩
            have hlt' : k < vs.length := by rw [HLL.out]; exact hlt
            obtain ⟨ga, offa, rfl, hga, hca⟩ := (HW.out.below hinv.below).at_ (by omega)
            obtain ⟨gb, offb, rfl, hgb, hcb⟩ := (HW'.out.below hinv.below).at_ (by omega)
            have c0 := hca k hlt
            have d0 := hcb k hlt'
            have hF : joinW op ws vs k = op ws[k] vs[k] := by unfold joinW; rw [List.getElem?_eq_getElem hlt, List.getElem?_eq_getElem hlt']; rfl
            have hx := word_in HW.out.lt k hlt
            have hy := word_in HW'.out.lt k hlt'
            have hs := fun v hv => filled_set (joinW op ws vs) ws.length k v hlt hv
            rw [hF] at hs
            generalize ws[k] = x at c0 hx hs
            generalize vs[k] = y at d0 hy hs
            have cc := HJ.out.call x y hx hy wr
            generalize op x y = z at cc hs
            have ik : (k : Int) < ws.length := by omega
            have ik' : (k : Int) < vs.length := by omega
            have hlB := hinv.lt
            have b1 := hbb.c1
            have kr := row_cell hinv.row (filled_get (joinW op ws vs) ws.length k k hlt)
            have kf : wr.frozen? ⟨w2.heap.size, k, none⟩ = false := row_free hinv.row
            have HI := Lib.hid hinv; have HBA := Lib.hid hba; have HBB := Lib.hid hbb; have HS := Lib.hid hs; have CC := Lib.hid cc
            clear hinv hba hbb hs cc hF hrow hca hcb
            go_wp2_with (go_at_call 68; refine (CC.out).mono ?_; rintro e w' ⟨rfl, rfl⟩)
            go_roundg n'
            case measure => omega
            case rel => exact ⟨k + 1, by omega, by go_num, HI.out.step _ (HS.out _ rfl), HBA.out.under (set_under _ _ _ _) (by omega), HBB.out.under (set_under _ _ _ _) (by omega)⟩
          · obtain rfl : k = ws.length := by omega
            have k0 := row_cell (i := 0) (v := .int .i64 0) hinv.res rfl
            have k1 := row_cell (i := 1) (v := .slice none 0 0) hinv.res rfl
            have f0 : wr.frozen? ⟨w.heap.size + 1 + 1, 0, none⟩ = false := row_free hinv.res
            have f1 : wr.frozen? ⟨w.heap.size + 1 + 1, 1, none⟩ = false := row_free hinv.res
            have b0 := hba.c0
            have HI := Lib.hid hinv
            have hzw := HB2.out.size
            clear hinv hrow hba hbb
            go_wp2_with fail
            refine bodyPost_ret (v := .tuple #[.agg #[.int .i64 (m : Int), .slice (some ⟨w2.heap.size, 0, none⟩) ws.length ws.length], .int .i64 0]) (by simp [results, Tryd.results67, go_sem, k0, k1, f0, f1]) rfl ?_
            have hfl := filled_len (joinW op ws vs) ws.length ws.length
            obtain ⟨hw, hb⟩ := HI.out.end_ (by rw [hfl]; unfold maxLen; omega) (fun x hx => by rw [filled_all] at hx; obtain ⟨k, _, rfl⟩ := List.mem_map.1 hx; exact HJ.out.lt _ _ (getD_lt HW.out.lt _) (getD_lt HW'.out.lt _)) (.int .i64 (m : Int)) (.slice (some ⟨w2.heap.size, 0, none⟩) ws.length ws.length)
            have := btNew_mk (cap := ws.length) E.out hw (fun g off e => by cases e; omega) hb
            rwa [hfl] at this
set_option maxHeartbeats 4000000 in
set_option maxRecDepth 100000 in
theorem join_or {op : Nat → Nat → Nat} {g : Bool → Bool → Bool} (hj : Joins2 70 op g) (n : Int) (p : Option Addr) (cap : Nat) (ws : List Nat) (n' : Int) (p' : Option Addr) (cap' : Nat) (vs : List Nat) (w : World) (h : WordsAt w p ws) (h' : WordsAt w p' vs) :
    Calls Tryd.prog 67 #[.agg #[.int .i64 n, .slice p ws.length cap], .agg #[.int .i64 n', .slice p' vs.length cap'], .func (.func 70) #[] #[]] w (BtNew (joinR g n ws n' vs) w) := by
  have ck := fun W (hW : Below w.heap.size w W) => check_any n p cap ws W (h.below hW)
  have cl := fun W (hW : Below w.heap.size w W) => check_any n' p' cap' vs W (h'.below hW)
  have e : joinR g n ws n' vs = if checkR n ws ≠ 0 then ((0, []), checkR n ws) else if checkR n' vs ≠ 0 then ((0, []), checkR n' vs) else if n ≠ n' then ((0, []), 2) else ((n.toNat, packR n.toNat fun i => g (bitN ws i) (bitN vs i)), 0) := rfl
  have hok := checkR_ok (n := n) h.lt
  have hok' := checkR_ok (n := n') h'.lt
  have HW := Lib.hid h; have HW' := Lib.hid h'; have HJ := Lib.hid hj
  generalize checkR n ws = c at ck e hok
  generalize checkR n' vs = d at cl e hok'
  generalize joinR g n ws n' vs = r at e
  have CK := Lib.hid ck; have CL := Lib.hid cl; clear ck cl h h' hj
  have A3 := Lib.hid (fun o1 o2 o3 => alloc3 w o1 o2 o3)
  obtain ⟨oa, hoa⟩ : ∃ o, o = Obj.cells #[.int .i64 n, .slice p ws.length cap] 24 (0, 0) := ⟨_, rfl⟩
  obtain ⟨ob, hob⟩ : ∃ o, o = Obj.cells #[.int .i64 n', .slice p' vs.length cap'] 24 (0, 0) := ⟨_, rfl⟩
  obtain ⟨oc, hoc⟩ : ∃ o, o = Obj.cells #[.int .i64 0, .slice none 0 0] 24 (0, 0) := ⟨_, rfl⟩
  obtain ⟨x1, x2, x3, x4, x5⟩ := A3.out oa ob oc
  have hR0 := Res2.new2 w oa ob (.int .i64 0) (.slice none 0 0) 24
  have hBa : BoxAt (((w.alloc oa).alloc ob).alloc oc) w.heap.size n (.slice p ws.length cap) := by
    rw [hoa] at x3 ⊢
    exact ⟨row_cell x3 rfl, row_cell x3 rfl, by rw [← hoa, x2]; omega⟩
  have hBb : BoxAt (((w.alloc oa).alloc ob).alloc oc) (w.heap.size + 1) n' (.slice p' vs.length cap') := by
    rw [hob] at x4 ⊢
    exact ⟨row_cell x4 rfl, row_cell x4 rfl, by rw [← hob, x2]; omega⟩
  have HX1 := Lib.hid x1; have HX2 := Lib.hid x2; have HX5 := Lib.hid x5; have HR0 := Lib.hid hR0; have HBa := Lib.hid hBa; have HBb := Lib.hid hBb
  clear x1 x2 x3 x4 x5 hR0 hBa hBb
  subst hoa hob hoc
  by_cases hc : c ≠ 0
  · rw [if_pos hc] at e
    obtain ⟨t1, t2⟩ := neq0 hc
    have E := Lib.hid e; clear e hc hok hok'
    go_enter Tryd.func67, Tryd.ntmps67
    go_wp2_with (go_at_call 19; refine (CK.out _ HX1.out).mono ?_; rintro e w1 ⟨rfl, hb⟩; have HB := Lib.hid (HX1.out.trans (hb.mono (by rw [HX2.out]; omega))); obtain ⟨k0, k1, f0, f1, lt⟩ := HR0.out.below hb; clear hb)
    refine bodyPost_ret (v := .tuple #[.agg #[.int .i64 0, .slice none 0 0], .int .i64 c]) (by simp [results, Tryd.results67, go_sem, k0, k1, f0, f1]) rfl ?_
    exact btNew_err E.out (set2B HB.out (by omega) _ _)
  · rw [if_neg hc] at e
    obtain rfl : c = 0 := Classical.not_not.1 hc
    by_cases hd : d ≠ 0
    · rw [if_pos hd] at e
      obtain ⟨t1, t2⟩ := neq0 hd
      have E := Lib.hid e; clear e hc hd hok hok'
      go_enter Tryd.func67, Tryd.ntmps67
      go_wp2_with fail
      refine (CK.out _ HX1.out).mono ?_
      rintro e w1 ⟨rfl, hb⟩
      have HB := Lib.hid (HX1.out.trans (hb.mono (by rw [HX2.out]; omega))); have HR := Lib.hid (HR0.out.below hb); have HBb1 := Lib.hid (HBb.out.below hb)
      clear hb
      have b0 := HBb1.out.c0; have b1 := HBb1.out.c1
      go_wp2_with fail
      refine (CL.out _ HB.out).mono ?_
      rintro e w2 ⟨rfl, hb⟩
      have HB2 := Lib.hid (HB.out.trans (hb.mono HB.out.size))
      obtain ⟨k0, k1, f0, f1, lt⟩ := HR.out.below hb
      clear hb b0 b1
      go_wp2_with fail
      refine bodyPost_ret (v := .tuple #[.agg #[.int .i64 0, .slice none 0 0], .int .i64 d]) (by simp [results, Tryd.results67, go_sem, k0, k1, f0, f1]) rfl ?_
      exact btNew_err E.out (set2B HB2.out (by omega) _ _)
    · rw [if_neg hd] at e
      obtain rfl : d = 0 := Classical.not_not.1 hd
      by_cases hn : n ≠ n'
      · rw [if_pos hn] at e
        have t1 : (n != n') = true := by rw [bne_iff_ne]; exact hn
        have E := Lib.hid e; clear e hc hd hn hok hok'
        go_enter Tryd.func67, Tryd.ntmps67
        go_wp2_with fail
        refine (CK.out _ HX1.out).mono ?_
        rintro e w1 ⟨rfl, hb⟩
        have HB := Lib.hid (HX1.out.trans (hb.mono (by rw [HX2.out]; omega))); have HR := Lib.hid (HR0.out.below hb); have HBb1 := Lib.hid (HBb.out.below hb); have HBa1 := Lib.hid (HBa.out.below hb)
        clear hb
        have b0 := HBb1.out.c0; have b1 := HBb1.out.c1
        go_wp2_with fail
        refine (CL.out _ HB.out).mono ?_
        rintro e w2 ⟨rfl, hb⟩
        have HB2 := Lib.hid (HB.out.trans (hb.mono HB.out.size))
        obtain ⟨k0, k1, f0, f1, lt⟩ := HR.out.below hb
        obtain ⟨a0, a1, _⟩ := HBa1.out.below hb
        clear b0 b1
        obtain ⟨b0, b1, _⟩ := HBb1.out.below hb
        clear hb
        go_wp2_with fail
        refine bodyPost_ret (v := .tuple #[.agg #[.int .i64 0, .slice none 0 0], .int .i64 2]) (by simp [results, Tryd.results67, go_sem, k0, k1, f0, f1]) rfl ?_
        exact btNew_err E.out (set2B HB2.out (by omega) _ _)
      · rw [if_neg hn] at e
        obtain rfl : n = n' := Classical.not_not.1 hn
        obtain ⟨hn0, hv⟩ := hok rfl
        obtain ⟨_, hv'⟩ := hok' rfl
        obtain ⟨m, rfl⟩ : ∃ m : Nat, n = (m : Int) := ⟨n.toNat, by omega⟩
        rw [Int.toNat_natCast] at e hv hv'
        obtain ⟨hr1, hr2⟩ := valid_room hv
        have hm := hv.le
        have hll : vs.length = ws.length := by rw [hv.len, hv'.len]
        have hp := join_bits HJ.out hv hv'
        rw [← hp, ← filled_all] at e
        have hmk := fun W => run_make_row' (P := Tryd.prog) 22 58 (.int .u64 0) 8 Tryd.underlying22 info_u64 rfl .i64 .i64 ws.length (by omega) (by omega) W
        have t1 : ((m : Int) != (m : Int)) = false := by simp
        have E := Lib.hid e; have HLL := Lib.hid hll
        clear e hp hc hd hn hok hok' hv hv' hn0 hll
        go_enter Tryd.func67, Tryd.ntmps67
        go_wp2_with fail
        refine (CK.out _ HX1.out).mono ?_
        rintro e w1 ⟨rfl, hb⟩
        have HB := Lib.hid (HX1.out.trans (hb.mono (by rw [HX2.out]; omega))); have HR := Lib.hid ((hb.block (w.heap.size + 2) (by rw [HX2.out]; omega)).trans HX5.out); have HBb1 := Lib.hid (HBb.out.below hb); have HBa1 := Lib.hid (HBa.out.below hb)
        clear hb
        have b0 := HBb1.out.c0; have b1 := HBb1.out.c1
        go_wp2_with fail
        refine (CL.out _ HB.out).mono ?_
        rintro e w2 ⟨rfl, hb⟩
        have HB2 := Lib.hid (HB.out.trans (hb.mono HB.out.size))
        have HRS := Lib.hid ((hb.block (w.heap.size + 2) (Array.getElem?_eq_some_iff.1 HR.out).1).trans HR.out)
        have HBa2 := Lib.hid (HBa1.out.below hb); have HBb2 := Lib.hid (HBb1.out.below hb)
        clear hb b0 b1
        have hz0 := HBa2.out.lt; have hz1 := HBb2.out.lt
        have a0 := HBa2.out.c0; have a1 := HBa2.out.c1
        have b0 := HBb2.out.c0; have b1 := HBb2.out.c1
        go_wp2_with fail
        clear hmk a0 a1 b0 b1
        go_loopg [38] ws.length (fun n i wr => ∃ k : Nat, k + n = ws.length ∧ i = .int .i64 k ∧ MInv w wr (w.heap.size + 1 + 1) w2.heap.size (filled (joinW op ws vs) ws.length k) ∧ BoxAt wr w.heap.size m (.slice p ws.length cap) ∧ BoxAt wr (w.heap.size + 1) m (.slice p' vs.length cap'))
        case atStart => exact ⟨0, by omega, by go_num, mInv_start _ _ HB2.out (by omega) HRS.out, HBa2.out.below ((Below.refl _ _).alloc (Nat.le_refl _) _), HBb2.out.below ((Below.refl _ _).alloc (Nat.le_refl _) _)⟩
        case round =>
          obtain ⟨k, hkn, rfl, hinv, hba, hbb⟩ := hrel
          have hrow := hinv.row
          by_cases hlt : k < ws.length
          · obtain ⟨n', rfl⟩ : ∃ n', gk = n' + 1 := ⟨gk - 1, by omega⟩
            have hlt' : k < vs.length := by rw [HLL.out]; exact hlt
            obtain ⟨ga, offa, rfl, hga, hca⟩ := (HW.out.below hinv.below).at_ (by omega)
            obtain ⟨gb, offb, rfl, hgb, hcb⟩ := (HW'.out.below hinv.below).at_ (by omega)
            have c0 := hca k hlt
            have d0 := hcb k hlt'
            have hF : joinW op ws vs k = op ws[k] vs[k] := by unfold joinW; rw [List.getElem?_eq_getElem hlt, List.getElem?_eq_getElem hlt']; rfl
            have hx := word_in HW.out.lt k hlt
            have hy := word_in HW'.out.lt k hlt'
            have hs := fun v hv => filled_set (joinW op ws vs) ws.length k v hlt hv
            rw [hF] at hs
            generalize ws[k] = x at c0 hx hs
            generalize vs[k] = y at d0 hy hs
            have cc := HJ.out.call x y hx hy wr
            generalize op x y = z at cc hs
            have ik : (k : Int) < ws.length := by omega
            have ik' : (k : Int) < vs.length := by omega
            have hlB := hinv.lt
            have b1 := hbb.c1
            have kr := row_cell hinv.row (filled_get (joinW op ws vs) ws.length k k hlt)
            have kf : wr.frozen? ⟨w2.heap.size, k, none⟩ = false := row_free hinv.row
            have HI := Lib.hid hinv; have HBA := Lib.hid hba; have HBB := Lib.hid hbb; have HS := Lib.hid hs; have CC := Lib.hid cc
            clear hinv hba hbb hs cc hF hrow hca hcb
            go_wp2_with (go_at_call 70; refine (CC.out).mono ?_; rintro e w' ⟨rfl, rfl⟩)
            go_roundg n'
            case measure => omega
            case rel => exact ⟨k + 1, by omega, by go_num, HI.out.step _ (HS.out _ rfl), HBA.out.under (set_under _ _ _ _) (by omega), HBB.out.under (set_under _ _ _ _) (by omega)⟩
          · obtain rfl : k = ws.length := by omega
            have k0 := row_cell (i := 0) (v := .int .i64 0) hinv.res rfl
            have k1 := row_cell (i := 1) (v := .slice none 0 0) hinv.res rfl
            have f0 : wr.frozen? ⟨w.heap.size + 1 + 1, 0, none⟩ = false := row_free hinv.res
            have f1 : wr.frozen? ⟨w.heap.size + 1 + 1, 1, none⟩ = false := row_free hinv.res
            have b0 := hba.c0
            have HI := Lib.hid hinv
            have hzw := HB2.out.size
            clear hinv hrow hba hbb
            go_wp2_with fail
            refine bodyPost_ret (v := .tuple #[.agg #[.int .i64 (m : Int), .slice (some ⟨w2.heap.size, 0, none⟩) ws.length ws.length], .int .i64 0]) (by simp [results, Tryd.results67, go_sem, k0, k1, f0, f1]) rfl ?_
            have hfl := filled_len (joinW op ws vs) ws.length ws.length
            obtain ⟨hw, hb⟩ := HI.out.end_ (by rw [hfl]; unfold maxLen; omega) (fun x hx => by rw [filled_all] at hx; obtain ⟨k, _, rfl⟩ := List.mem_map.1 hx; exact HJ.out.lt _ _ (getD_lt HW.out.lt _) (getD_lt HW'.out.lt _)) (.int .i64 (m : Int)) (.slice (some ⟨w2.heap.size, 0, none⟩) ws.length ws.length)
            have := btNew_mk (cap := ws.length) E.out hw (fun g off e => by cases e; omega) hb
            rwa [hfl] at this
set_option maxHeartbeats 4000000 in
set_option maxRecDepth 100000 in
theorem join_less {op : Nat → Nat → Nat} {g : Bool → Bool → Bool} (hj : Joins2 71 op g) (n : Int) (p : Option Addr) (cap : Nat) (ws : List Nat) (n' : Int) (p' : Option Addr) (cap' : Nat) (vs : List Nat) (w : World) (h : WordsAt w p ws) (h' : WordsAt w p' vs) :
    Calls Tryd.prog 67 #[.agg #[.int .i64 n, .slice p ws.length cap], .agg #[.int .i64 n', .slice p' vs.length cap'], .func (.func 71) #[] #[]] w (BtNew (joinR g n ws n' vs) w) := by
  have ck := fun W (hW : Below w.heap.size w W) => check_any n p cap ws W (h.below hW)
  have cl := fun W (hW : Below w.heap.size w W) => check_any n' p' cap' vs W (h'.below hW)
  have e : joinR g n ws n' vs = if checkR n ws ≠ 0 then ((0, []), checkR n ws) else if checkR n' vs ≠ 0 then ((0, []), checkR n' vs) else if n ≠ n' then ((0, []), 2) else ((n.toNat, packR n.toNat fun i => g (bitN ws i) (bitN vs i)), 0) := rfl
  have hok := checkR_ok (n := n) h.lt
  have hok' := checkR_ok (n := n') h'.lt
  have HW := Lib.hid h; have HW' := Lib.hid h'; have HJ := Lib.hid hj
  generalize checkR n ws = c at ck e hok
  generalize checkR n' vs = d at cl e hok'
  generalize joinR g n ws n' vs = r at e
  have CK := Lib.hid ck; have CL := Lib.hid cl; clear ck cl h h' hj
  have A3 := Lib.hid (fun o1 o2 o3 => alloc3 w o1 o2 o3)
  obtain ⟨oa, hoa⟩ : ∃ o, o = Obj.cells #[.int .i64 n, .slice p ws.length cap] 24 (0, 0) := ⟨_, rfl⟩
  obtain ⟨ob, hob⟩ : ∃ o, o = Obj.cells #[.int .i64 n', .slice p' vs.length cap'] 24 (0, 0) := ⟨_, rfl⟩
  obtain ⟨oc, hoc⟩ : ∃ o, o = Obj.cells #[.int .i64 0, .slice none 0 0] 24 (0, 0) := ⟨_, rfl⟩
  obtain ⟨x1, x2, x3, x4, x5⟩ := A3.out oa ob oc
  have hR0 := Res2.new2 w oa ob (.int .i64 0) (.slice none 0 0) 24
  have hBa : BoxAt (((w.alloc oa).alloc ob).alloc oc) w.heap.size n (.slice p ws.length cap) := by
    rw [hoa] at x3 ⊢
    exact ⟨row_cell x3 rfl, row_cell x3 rfl, by rw [← hoa, x2]; omega⟩
  have hBb : BoxAt (((w.alloc oa).alloc ob).alloc oc) (w.heap.size + 1) n' (.slice p' vs.length cap') := by
    rw [hob] at x4 ⊢
    exact ⟨row_cell x4 rfl, row_cell x4 rfl, by rw [← hob, x2]; omega⟩
  have HX1 := Lib.hid x1; have HX2 := Lib.hid x2; have HX5 := Lib.hid x5; have HR0 := Lib.hid hR0; have HBa := Lib.hid hBa; have HBb := Lib.hid hBb
  clear x1 x2 x3 x4 x5 hR0 hBa hBb
  subst hoa hob hoc
  by_cases hc : c ≠ 0
  · rw [if_pos hc] at e
    obtain ⟨t1, t2⟩ := neq0 hc
    have E := Lib.hid e; clear e hc hok hok'
    go_enter Tryd.func67, Tryd.ntmps67
    go_wp2_with (go_at_call 19; refine (CK.out _ HX1.out).mono ?_; rintro e w1 ⟨rfl, hb⟩; have HB := Lib.hid (HX1.out.trans (hb.mono (by rw [HX2.out]; omega))); obtain ⟨k0, k1, f0, f1, lt⟩ := HR0.out.below hb; clear hb)
    refine bodyPost_ret (v := .tuple #[.agg #[.int .i64 0, .slice none 0 0], .int .i64 c]) (by simp [results, Tryd.results67, go_sem, k0, k1, f0, f1]) rfl ?_
    exact btNew_err E.out (set2B HB.out (by omega) _ _)
  · rw [if_neg hc] at e
    obtain rfl : c = 0 := Classical.not_not.1 hc
    by_cases hd : d ≠ 0
    · rw [if_pos hd] at e
      obtain ⟨t1, t2⟩ := neq0 hd
      have E := Lib.hid e; clear e hc hd hok hok'
      go_enter Tryd.func67, Tryd.ntmps67
      go_wp2_with fail
      refine (CK.out _ HX1.out).mono ?_
      rintro e w1 ⟨rfl, hb⟩
      have HB := Lib.hid (HX1.out.trans (hb.mono (by rw [HX2.out]; omega))); have HR := Lib.hid (HR0.out.below hb); have HBb1 := Lib.hid (HBb.out.below hb)
      clear hb
      have b0 := HBb1.out.c0; have b1 := HBb1.out.c1
      go_wp2_with fail
      refine (CL.out _ HB.out).mono ?_
      rintro e w2 ⟨rfl, hb⟩
      have HB2 := Lib.hid (HB.out.trans (hb.mono HB.out.size))
      obtain ⟨k0, k1, f0, f1, lt⟩ := HR.out.below hb
      clear hb b0 b1
      go_wp2_with fail
      refine bodyPost_ret (v := .tuple #[.agg #[.int .i64 0, .slice none 0 0], .int .i64 d]) (by simp [results, Tryd.results67, go_sem, k0, k1, f0, f1]) rfl ?_
      exact btNew_err E.out (set2B HB2.out (by omega) _ _)
    · rw [if_neg hd] at e
      obtain rfl : d = 0 := Classical.not_not.1 hd
      by_cases hn : n ≠ n'
      · rw [if_pos hn] at e
        have t1 : (n != n') = true := by rw [bne_iff_ne]; exact hn
        have E := Lib.hid e; clear e hc hd hn hok hok'
        go_enter Tryd.func67, Tryd.ntmps67
        go_wp2_with fail
        refine (CK.out _ HX1.out).mono ?_
        rintro e w1 ⟨rfl, hb⟩
        have HB := Lib.hid (HX1.out.trans (hb.mono (by rw [HX2.out]; omega))); have HR := Lib.hid (HR0.out.below hb); have HBb1 := Lib.hid (HBb.out.below hb); have HBa1 := Lib.hid (HBa.out.below hb)
        clear hb
        have b0 := HBb1.out.c0; have b1 := HBb1.out.c1
        go_wp2_with fail
        refine (CL.out _ HB.out).mono ?_
        rintro e w2 ⟨rfl, hb⟩
        have HB2 := Lib.hid (HB.out.trans (hb.mono HB.out.size))
        obtain ⟨k0, k1, f0, f1, lt⟩ := HR.out.below hb
        obtain ⟨a0, a1, _⟩ := HBa1.out.below hb
        clear b0 b1
        obtain ⟨b0, b1, _⟩ := HBb1.out.below hb
        clear hb
        go_wp2_with fail
        refine bodyPost_ret (v := .tuple #[.agg #[.int .i64 0, .slice none 0 0], .int .i64 2]) (by simp [results, Tryd.results67, go_sem, k0, k1, f0, f1]) rfl ?_
        exact btNew_err E.out (set2B HB2.out (by omega) _ _)
      · rw [if_neg hn] at e
        obtain rfl : n = n' := Classical.not_not.1 hn
        obtain ⟨hn0, hv⟩ := hok rfl
        obtain ⟨_, hv'⟩ := hok' rfl
        obtain ⟨m, rfl⟩ : ∃ m : Nat, n = (m : Int) := ⟨n.toNat, by omega⟩
        rw [Int.toNat_natCast] at e hv hv'
        obtain ⟨hr1, hr2⟩ := valid_room hv
        have hm := hv.le
        have hll : vs.length = ws.length := by rw [hv.len, hv'.len]
        have hp := join_bits HJ.out hv hv'
        rw [← hp, ← filled_all] at e
        have hmk := fun W => run_make_row' (P := Tryd.prog) 22 58 (.int .u64 0) 8 Tryd.underlying22 info_u64 rfl .i64 .i64 ws.length (by omega) (by omega) W
        have t1 : ((m : Int) != (m : Int)) = false := by simp
        have E := Lib.hid e; have HLL := Lib.hid hll
        clear e hp hc hd hn hok hok' hv hv' hn0 hll
        go_enter Tryd.func67, Tryd.ntmps67
        go_wp2_with fail
        refine (CK.out _ HX1.out).mono ?_
        rintro e w1 ⟨rfl, hb⟩
        have HB := Lib.hid (HX1.out.trans (hb.mono (by rw [HX2.out]; omega))); have HR := Lib.hid ((hb.block (w.heap.size + 2) (by rw [HX2.out]; omega)).trans HX5.out); have HBb1 := Lib.hid (HBb.out.below hb); have HBa1 := Lib.hid (HBa.out.below hb)
        clear hb
        have b0 := HBb1.out.c0; have b1 := HBb1.out.c1
        go_wp2_with fail
        refine (CL.out _ HB.out).mono ?_
        rintro e w2 ⟨rfl, hb⟩
        have HB2 := Lib.hid (HB.out.trans (hb.mono HB.out.size))
        have HRS := Lib.hid ((hb.block (w.heap.size + 2) (Array.getElem?_eq_some_iff.1 HR.out).1).trans HR.out)
        have HBa2 := Lib.hid (HBa1.out.below hb); have HBb2 := Lib.hid (HBb1.out.below hb)
        clear hb b0 b1
        have hz0 := HBa2.out.lt; have hz1 := HBb2.out.lt
        have a0 := HBa2.out.c0; have a1 := HBa2.out.c1
        have b0 := HBb2.out.c0; have b1 := HBb2.out.c1
        go_wp2_with fail
        clear hmk a0 a1 b0 b1
        go_loopg [38] ws.length (fun n i wr => ∃ k : Nat, k + n = ws.length ∧ i = .int .i64 k ∧ MInv w wr (w.heap.size + 1 + 1) w2.heap.size (filled (joinW op ws vs) ws.length k) ∧ BoxAt wr w.heap.size m (.slice p ws.length cap) ∧ BoxAt wr (w.heap.size + 1) m (.slice p' vs.length cap'))
        case atStart => exact ⟨0, by omega, by go_num, mInv_start _ _ HB2.out (by omega) HRS.out, HBa2.out.below ((Below.refl _ _).alloc (Nat.le_refl _) _), HBb2.out.below ((Below.refl _ _).alloc (Nat.le_refl _) _)⟩
        case round =>
          obtain ⟨k, hkn, rfl, hinv, hba, hbb⟩ := hrel
          have hrow := hinv.row
          by_cases hlt : k < ws.length
          · obtain ⟨n', rfl⟩ : ∃ n', gk = n' + 1 := ⟨gk - 1, by omega⟩
            have hlt' : k < vs.length := by rw [HLL.out]; exact hlt
            obtain ⟨ga, offa, rfl, hga, hca⟩ := (HW.out.below hinv.below).at_ (by omega)
            obtain ⟨gb, offb, rfl, hgb, hcb⟩ := (HW'.out.below hinv.below).at_ (by omega)
            have c0 := hca k hlt
            have d0 := hcb k hlt'
            have hF : joinW op ws vs k = op ws[k] vs[k] := by unfold joinW; rw [List.getElem?_eq_getElem hlt, List.getElem?_eq_getElem hlt']; rfl
            have hx := word_in HW.out.lt k hlt
            have hy := word_in HW'.out.lt k hlt'
            have hs := fun v hv => filled_set (joinW op ws vs) ws.length k v hlt hv
            rw [hF] at hs
            generalize ws[k] = x at c0 hx hs
            generalize vs[k] = y at d0 hy hs
            have cc := HJ.out.call x y hx hy wr
            generalize op x y = z at cc hs
            have ik : (k : Int) < ws.length := by omega
            have ik' : (k : Int) < vs.length := by omega
            have hlB := hinv.lt
            have b1 := hbb.c1
            have kr := row_cell hinv.row (filled_get (joinW op ws vs) ws.length k k hlt)
            have kf : wr.frozen? ⟨w2.heap.size, k, none⟩ = false := row_free hinv.row
            have HI := Lib.hid hinv; have HBA := Lib.hid hba; have HBB := Lib.hid hbb; have HS := Lib.hid hs; have CC := Lib.hid cc
            clear hinv hba hbb hs cc hF hrow hca hcb
            go_wp2_with (go_at_call 71; refine (CC.out).mono ?_; rintro e w' ⟨rfl, rfl⟩)
            go_roundg n'
            case measure => omega
            case rel => exact ⟨k + 1, by omega, by go_num, HI.out.step _ (HS.out _ rfl), HBA.out.under (set_under _ _ _ _) (by omega), HBB.out.under (set_under _ _ _ _) (by omega)⟩
          · obtain rfl : k = ws.length := by omega
            have k0 := row_cell (i := 0) (v := .int .i64 0) hinv.res rfl
            have k1 := row_cell (i := 1) (v := .slice none 0 0) hinv.res rfl
            have f0 : wr.frozen? ⟨w.heap.size + 1 + 1, 0, none⟩ = false := row_free hinv.res
            have f1 : wr.frozen? ⟨w.heap.size + 1 + 1, 1, none⟩ = false := row_free hinv.res
            have b0 := hba.c0
            have HI := Lib.hid hinv
            have hzw := HB2.out.size
            clear hinv hrow hba hbb
            go_wp2_with fail
            refine bodyPost_ret (v := .tuple #[.agg #[.int .i64 (m : Int), .slice (some ⟨w2.heap.size, 0, none⟩) ws.length ws.length], .int .i64 0]) (by simp [results, Tryd.results67, go_sem, k0, k1, f0, f1]) rfl ?_
            have hfl := filled_len (joinW op ws vs) ws.length ws.length
            obtain ⟨hw, hb⟩ := HI.out.end_ (by rw [hfl]; unfold maxLen; omega) (fun x hx => by rw [filled_all] at hx; obtain ⟨k, _, rfl⟩ := List.mem_map.1 hx; exact HJ.out.lt _ _ (getD_lt HW.out.lt _) (getD_lt HW'.out.lt _)) (.int .i64 (m : Int)) (.slice (some ⟨w2.heap.size, 0, none⟩) ws.length ws.length)
            have := btNew_mk (cap := ws.length) E.out hw (fun g off e => by cases e; omega) hb
            rwa [hfl] at this
theorem joins_and : Joins2 68 (fun x y => x &&& y) (fun a b => a && b) := by
  refine ⟨fun x y hx hy W => ?_, fun x y hx hy => Nat.and_lt_two_pow (n := 64) _ hy, fun x y j _ _ => Nat.testBit_and .., rfl⟩
  have e := u64_and_nat x y hx hy
  go_enter Tryd.func68, Tryd.ntmps68
  go_wp2_with fail
  go_ret
  exact ⟨rfl, rfl⟩
theorem joins_or : Joins2 70 (fun x y => x ||| y) (fun a b => a || b) := by
  refine ⟨fun x y hx hy W => ?_, fun x y hx hy => Nat.or_lt_two_pow (n := 64) hx hy, fun x y j _ _ => Nat.testBit_or .., rfl⟩
  have e := u64_or_nat x y hx hy
  go_enter Tryd.func70, Tryd.ntmps70
  go_wp2_with fail
  go_ret
  exact ⟨rfl, rfl⟩
theorem joins_less : Joins2 71 (fun x y => x &&& (top - y)) (fun a b => a && !b) := by
  refine ⟨fun x y hx hy W => ?_, fun x y hx hy => Nat.and_lt_two_pow (n := 64) _ (by unfold top; omega), fun x y j hx hy => ?_, rfl⟩
  · have e := u64_andNot_nat x y hx hy
    go_enter Tryd.func71, Tryd.ntmps71
    go_wp2_with fail
    go_ret
    exact ⟨rfl, rfl⟩
  · rw [Nat.testBit_and, not_bit hy]
    by_cases hj : j < 64
    · simp [hj]
    · rw [big_bit hx (by omega)]; simp
set_option maxHeartbeats 2000000 in
set_option maxRecDepth 100000 in
theorem and_any (n : Int) (p : Option Addr) (cap : Nat) (ws : List Nat) (n' : Int) (p' : Option Addr) (cap' : Nat) (vs : List Nat) (w : World) (h : WordsAt w p ws) (h' : WordsAt w p' vs) :
    Calls Tryd.prog 41 #[.agg #[.int .i64 n, .slice p ws.length cap], .agg #[.int .i64 n', .slice p' vs.length cap']] w (BtNew (joinR (fun a b => a && b) n ws n' vs) w) := by
  have cj := fun W (hW : Below w.heap.size w W) => join_and joins_and n p cap ws n' p' cap' vs W (h.below hW) (h'.below hW)
  generalize joinR (fun a b => a && b) n ws n' vs = r at cj
  obtain ⟨⟨rn, rw_⟩, rc⟩ := r
  have CJ := Lib.hid cj
  have A3 := Lib.hid (fun o1 o2 o3 => alloc3 w o1 o2 o3)
  have HR0 := Lib.hid (fun o1 o2 => Res2.new2 w o1 o2 (.int .i64 0) (.slice none 0 0) 24)
  clear cj h h'
  go_enter Tryd.func41, Tryd.ntmps41
  go_wp2_with fail
  refine (CJ.out _ (A3.out _ _ _).1).mono ?_
  rintro e w1 ⟨p1, c1, rfl, hwa, hna, hb⟩
  have hz := (A3.out (.cells #[.int .i64 n, .slice p ws.length cap] 24) (.cells #[.int .i64 n', .slice p' vs.length cap'] 24) (.cells #[.int .i64 0, .slice none 0 0] 24)).2.1
  have HNA := Lib.hid (fun g off e => by have := hna g off e; rw [hz] at this; exact this)
  have HB2 := Lib.hid ((A3.out _ _ _).1.trans (hb.mono (by rw [hz]; omega)))
  have HWA := Lib.hid hwa
  obtain ⟨k0, k1, f0, f1, lt⟩ := (HR0.out _ _).below hb
  clear hb hwa hna hz
  go_wp2_with fail
  refine bodyPost_ret (v := .tuple #[.agg #[.int .i64 rn, .slice p1 rw_.length c1], .int .i64 rc]) (by simp [results, Tryd.results41, go_sem, k0, k1, f0, f1]) rfl ?_
  exact btNew_mk rfl (HWA.out.set2 (fun g off e h => by have := HNA.out g off e; omega) _ _) (fun g off e => by have := HNA.out g off e; omega) (set2B HB2.out (by omega) _ _)
set_option maxHeartbeats 2000000 in
set_option maxRecDepth 100000 in
theorem or_any (n : Int) (p : Option Addr) (cap : Nat) (ws : List Nat) (n' : Int) (p' : Option Addr) (cap' : Nat) (vs : List Nat) (w : World) (h : WordsAt w p ws) (h' : WordsAt w p' vs) :
    Calls Tryd.prog 43 #[.agg #[.int .i64 n, .slice p ws.length cap], .agg #[.int .i64 n', .slice p' vs.length cap']] w (BtNew (joinR (fun a b => a || b) n ws n' vs) w) := by
  have cj := fun W (hW : Below w.heap.size w W) => join_or joins_or n p cap ws n' p' cap' vs W (h.below hW) (h'.below hW)
  generalize joinR (fun a b => a || b) n ws n' vs = r at cj
  obtain ⟨⟨rn, rw_⟩, rc⟩ := r
  have CJ := Lib.hid cj
  have A3 := Lib.hid (fun o1 o2 o3 => alloc3 w o1 o2 o3)
  have HR0 := Lib.hid (fun o1 o2 => Res2.new2 w o1 o2 (.int .i64 0) (.slice none 0 0) 24)
  clear cj h h'
  go_enter Tryd.func43, Tryd.ntmps43
  go_wp2_with fail
  refine (CJ.out _ (A3.out _ _ _).1).mono ?_
  rintro e w1 ⟨p1, c1, rfl, hwa, hna, hb⟩
  have hz := (A3.out (.cells #[.int .i64 n, .slice p ws.length cap] 24) (.cells #[.int .i64 n', .slice p' vs.length cap'] 24) (.cells #[.int .i64 0, .slice none 0 0] 24)).2.1
  have HNA := Lib.hid (fun g off e => by have := hna g off e; rw [hz] at this; exact this)
  have HB2 := Lib.hid ((A3.out _ _ _).1.trans (hb.mono (by rw [hz]; omega)))
  have HWA := Lib.hid hwa
  obtain ⟨k0, k1, f0, f1, lt⟩ := (HR0.out _ _).below hb
  clear hb hwa hna hz
  go_wp2_with fail
  refine bodyPost_ret (v := .tuple #[.agg #[.int .i64 rn, .slice p1 rw_.length c1], .int .i64 rc]) (by simp [results, Tryd.results43, go_sem, k0, k1, f0, f1]) rfl ?_
  exact btNew_mk rfl (HWA.out.set2 (fun g off e h => by have := HNA.out g off e; omega) _ _) (fun g off e => by have := HNA.out g off e; omega) (set2B HB2.out (by omega) _ _)
set_option maxHeartbeats 2000000 in
set_option maxRecDepth 100000 in
theorem less_any (n : Int) (p : Option Addr) (cap : Nat) (ws : List Nat) (n' : Int) (p' : Option Addr) (cap' : Nat) (vs : List Nat) (w : World) (h : WordsAt w p ws) (h' : WordsAt w p' vs) :
    Calls Tryd.prog 45 #[.agg #[.int .i64 n, .slice p ws.length cap], .agg #[.int .i64 n', .slice p' vs.length cap']] w (BtNew (joinR (fun a b => a && !b) n ws n' vs) w) := by
  have cj := fun W (hW : Below w.heap.size w W) => join_less joins_less n p cap ws n' p' cap' vs W (h.below hW) (h'.below hW)
  generalize joinR (fun a b => a && !b) n ws n' vs = r at cj
  obtain ⟨⟨rn, rw_⟩, rc⟩ := r
  have CJ := Lib.hid cj
  have A3 := Lib.hid (fun o1 o2 o3 => alloc3 w o1 o2 o3)
  have HR0 := Lib.hid (fun o1 o2 => Res2.new2 w o1 o2 (.int .i64 0) (.slice none 0 0) 24)
  clear cj h h'
  go_enter Tryd.func45, Tryd.ntmps45
  go_wp2_with fail
  refine (CJ.out _ (A3.out _ _ _).1).mono ?_
  rintro e w1 ⟨p1, c1, rfl, hwa, hna, hb⟩
  have hz := (A3.out (.cells #[.int .i64 n, .slice p ws.length cap] 24) (.cells #[.int .i64 n', .slice p' vs.length cap'] 24) (.cells #[.int .i64 0, .slice none 0 0] 24)).2.1
  have HNA := Lib.hid (fun g off e => by have := hna g off e; rw [hz] at this; exact this)
  have HB2 := Lib.hid ((A3.out _ _ _).1.trans (hb.mono (by rw [hz]; omega)))
  have HWA := Lib.hid hwa
  obtain ⟨k0, k1, f0, f1, lt⟩ := (HR0.out _ _).below hb
  clear hb hwa hna hz
  go_wp2_with fail
  refine bodyPost_ret (v := .tuple #[.agg #[.int .i64 rn, .slice p1 rw_.length c1], .int .i64 rc]) (by simp [results, Tryd.results45, go_sem, k0, k1, f0, f1]) rfl ?_
  exact btNew_mk rfl (HWA.out.set2 (fun g off e h => by have := HNA.out g off e; omega) _ _) (fun g off e => by have := HNA.out g off e; omega) (set2B HB2.out (by omega) _ _)
end Go.Proofs.YtocgdibadcmnfaaDoor
