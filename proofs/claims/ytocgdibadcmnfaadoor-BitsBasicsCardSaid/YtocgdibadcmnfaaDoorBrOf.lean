/- The reference's Of: bits that are given as a list. -/
import Derived.Test.YtocgdibadcmnfaaDoorBrOfMath
import Derived.Test.YtocgdibadcmnfaaDoorBtMorgan
import Derived.StillTailTactics
namespace Go.Proofs.YtocgdibadcmnfaaDoor
open Go.RowKit Go.Shelf
theorem Res2.set1 {W : World} {B : Nat} {x y : Value} (h : Res2 W B x y) (v : Value) : Res2 (W.setCell ⟨B, 1, none⟩ v) B x v := by
  refine ⟨?_, ?_, ?_, ?_, by have := h.lt; simpa [World.setCell] using this⟩
  · rw [World.cell?_setCell_other _ _ _ _ (by simp)]; exact h.k0
  · exact World.cell?_setCell_same' _ _ _ (by rw [h.k1]; rfl)
  · rw [World.frozen?_setCell]; exact h.f0
  · rw [World.frozen?_setCell]; exact h.f1
theorem Res2.set_other {W : World} {B B' j : Nat} {x y : Value} (h : Res2 W B x y) (hne : B ≠ B') (v : Value) : Res2 (W.setCell ⟨B', j, none⟩ v) B x y := by
  refine ⟨?_, ?_, ?_, ?_, by have := h.lt; simpa [World.setCell] using this⟩
  · rw [World.cell?_setCell_other _ _ _ _ (by simp [hne])]; exact h.k0
  · rw [World.cell?_setCell_other _ _ _ _ (by simp [hne])]; exact h.k1
  · rw [World.frozen?_setCell]; exact h.f0
  · rw [World.frozen?_setCell]; exact h.f1
theorem cellU_one (w : World) (a : Value) (t : TypeId) (n : Nat) (hn : n = w.heap.size) : ∀ j u, [a][j]? = some u → (w.alloc (.cells #[a] t)).cell? ((⟨n, 0, none⟩ : Addr).add j) = some u := cellB_one w a t n hn
theorem u64_one (x : Int) : ∀ u ∈ [Value.int .u64 x], u.oneCell' = true := by
  intro u hu
  obtain rfl := List.mem_singleton.1 hu
  rfl
theorem own_slice {W : World} {base : Nat} {e : TypeId} {size : Nat} {v : Value} {n : Nat} {xs : List Value} (h : W.ownsRow base e size v n xs) : ∃ p cap, v = .slice p n cap := by
  rcases h.2 with ⟨rfl, h0⟩ | ⟨g, cap, cur, rfl, _⟩
  · exact ⟨none, 0, by rw [h0]⟩
  · exact ⟨_, _, rfl⟩
theorem own_row {W : World} {base : Nat} {e : TypeId} {size : Nat} {v : Value} {n : Nat} {xs : List Value} (h : W.ownsRow base e size v n xs) (h0 : 0 < n) : ∃ g cap, v = .slice (some ⟨g, 0, none⟩) n cap ∧ base ≤ g ∧ g < W.heap.size ∧ ∀ j u, xs[j]? = some u → W.cell? ⟨g, j, none⟩ = some u := by
  rcases h.2 with ⟨_, h1⟩ | ⟨g, cap, cur, rfl, hb, hg, _⟩
  · omega
  · refine ⟨g, cap, rfl, hb, (Array.getElem?_eq_some_iff.1 hg).1, fun j u hj => ?_⟩
    have hc := h.cells (g := g) rfl j u hj
    rwa [WideShapes.add_plain, Nat.zero_add] at hc
/-- What holds between two rounds of Of: the result's box, the variable's box, the words. -/
structure OfInv (w W : World) (m : Nat) (v : Value) (k : Nat) (xs : List Value) : Prop where
  below : Below w.heap.size w W
  res : Res2 W w.heap.size (.int .i64 0) (.slice none 0 0)
  box : Res2 W (w.heap.size + 1) (.int .i64 (m : Int)) v
  row : W.ownsRow (w.heap.size + 2) 58 1 v k xs
theorem ofInv_start (w : World) (m : Nat) : OfInv w ((w.alloc (.cells #[.int .i64 0, .slice none 0 0] 24)).alloc (.cells #[.int .i64 (m : Int), .slice none 0 0] 24)) m (.slice none 0 0) 0 [] := by
  refine ⟨(alloc2 w _ _).1, (Res2.new w _ _ _).below ((Below.refl _ _).alloc (Nat.le_refl _) _), Res2.new1 _ _ _ _ _, World.ownsRow_nil _ _ _ _⟩
theorem OfInv.call {w W W' : World} {m : Nat} {v : Value} {k : Nat} {xs : List Value} (h : OfInv w W m v k xs) (hb : Below W.heap.size W W') : OfInv w W' m v k xs :=
  ⟨h.below.trans (hb.mono h.below.size), h.res.below hb, h.box.below hb, ownB_below h.row hb⟩
theorem OfInv.app {w W W' : World} {m : Nat} {v v' : Value} {k : Nat} {xs xs' : List Value} (h : OfInv w W m v k xs) (hb : Below (w.heap.size + 2) W W') (hr : W'.ownsRow (w.heap.size + 2) 58 1 v' (k + 1) xs') : OfInv w (W'.setCell ⟨w.heap.size + 1, 1, none⟩ v') m v' (k + 1) xs' := by
  refine ⟨?_, (h.res.under hb (by omega)).set_other (by omega) _, (h.box.under hb (by omega)).set1 _, own_setLow hr (by omega)⟩
  exact Below.setCell (p := ⟨w.heap.size + 1, 1, none⟩) (h.below.trans (hb.mono (by omega))) (by show w.heap.size ≤ w.heap.size + 1; omega) _
theorem OfInv.store {w W : World} {m n g cap : Nat} {xs : List Value} (h : OfInv w W m (.slice (some ⟨g, 0, none⟩) n cap) n xs) (q : Nat) (u : Value) (hg : w.heap.size + 2 ≤ g) : OfInv w (W.setCell ⟨g, q, none⟩ u) m (.slice (some ⟨g, 0, none⟩) n cap) n (xs.set q u) :=
  ⟨Below.setCell (p := ⟨g, q, none⟩) h.below (by show w.heap.size ≤ g; omega) _, h.res.set_other (by omega) _, h.box.set_other (by omega) _, (ownsRow_set (j := q) u h.row).1⟩
theorem one_bit : ∀ r, r < 64 → IntKind.u64.wrap (2 ^ min (IntKind.u64.wrap ((r : Nat) : Int)).toNat 64) = ((2 ^ r : Nat) : Int) := by decide +kernel
theorem or_bit (x r : Nat) (hx : x < 2 ^ 64) (hr : r < 64) : bits .or .u64 (x : Int) (IntKind.u64.wrap (2 ^ min (IntKind.u64.wrap (r : Int)).toNat 64)) = ((x ||| 2 ^ r : Nat) : Int) := by
  rw [one_bit r hr]
  exact u64_or_nat x (2 ^ r) hx (Nat.pow_lt_pow_right (by decide) hr)
theorem drewOne (b : Nat) (W : World) : Below b W W.drew := ⟨rfl, rfl, rfl, Nat.le_refl _, fun _ _ => rfl⟩
set_option maxHeartbeats 4000000 in
set_option maxRecDepth 100000 in
theorem rOf_any (f : Nat → Bool) (m : Nat) (p : Option Addr) (cap : Nat) (w : World) (hm : m ≤ 4096) (h : BoolsAt w p f m) :
    Calls Tryd.prog 52 #[.slice p m cap] w fun e w' => ∃ p' cap', e = .returned (.agg #[.int .i64 (m : Int), .slice p' (lenW m) cap']) ∧ WordsAt w' p' (packR m f) ∧ NewAt w.heap.size p' ∧ Below w.heap.size w w' := by
  have cw := fun W => rwords_any m (by omega) W
  have HW := Lib.hid h
  have CW := Lib.hid cw
  have m4 : (m : Int) ≤ 4096 := by omega
  have hl4 : lenW m ≤ 64 := by unfold lenW; omega
  have l4 : ((lenW m : Nat) : Int) ≤ 64 := by omega
  obtain ⟨i0, hi, hz0, hz1, hz2⟩ := info_parts info_u64
  have HI := Lib.hid hi; have HZ0 := Lib.hid hz0; have HZ1 := Lib.hid hz1; have HZ2 := Lib.hid hz2
  clear h cw hi hz0 hz1 hz2
  go_enter Tryd.func52, Tryd.ntmps52
  go_wp2_with fail
  go_loopg [4] (lenW m) (fun n1 i wr => ∃ (k : Nat) (v : Value), k + n1 = lenW m ∧ i = .int .i64 k ∧ OfInv w wr m v k (List.replicate k (.int .u64 0)))
  case atStart => exact ⟨0, _, by omega, by go_num, ofInv_start _ _⟩
  case round =>
    obtain ⟨k, v, hkn, rfl, hinv⟩ := hrel
    have HV := Lib.hid hinv
    have b1 := hinv.box.k1
    clear hinv
    have k0 : (0 : Int) ≤ k := by omega
    have k4 : (k : Int) ≤ 64 := by omega
    by_cases hlt : k < lenW m
    · obtain ⟨n', rfl⟩ : ∃ n', gk = n' + 1 := ⟨gk - 1, by omega⟩
      have i1 : (k : Int) < ((lenW m : Nat) : Int) := by omega
      have hrow := HV.out.row
      have hsz := HV.out.box.lt
      have hb1 : k + 1 ≤ maxLen := by unfold maxLen; omega
      have hb2 : (k + 1) * 8 ≤ 140737488355328 := by omega
      have HO := Lib.hid hrow; have HL1 := Lib.hid hb1; have HL2 := Lib.hid hb2; have H1C := Lib.hid (u64_one 0)
      clear hrow hb1 hb2
      go_wp2_with (first
        | (go_at_call 55; refine (CW.out _).mono ?_; rintro e w' ⟨rfl, rfl⟩)
        | (at_builtin; refine wpList_append_own _ rfl _ _ 22 rfl (w.heap.size + 2) 58 i0 (.int .u64 0) 1 8 Tryd.underlying22 HI.out HZ0.out HZ1.out HZ2.out rfl (by decide) _ _ _ rfl (HO.out.alloc _) ⟨wr.heap.size, 0, none⟩ 1 1 [.int .u64 0] rfl rfl (cellU_one _ _ _ _ rfl) H1C.out HL1.out HL2.out (by simp; omega) ?_; intro v4 w4 hown4 hgrow4 hnil4; obtain ⟨p4, c4, rfl⟩ := own_slice hown4; have hbb : Below (w.heap.size + 2) wr w4 := ((Below.refl _ _).alloc (by omega) _).grown hgrow4 (by simp; omega) (ownB_block HO.out); have HI4 := Lib.hid (HV.out.app hbb hown4); have hx4 := HV.out.box.under hbb (by omega); have g1 := hx4.k1; have g2 := hx4.f1; clear hx4 hown4 hgrow4 hnil4 hbb))
      go_roundg n'
      case measure => omega
      case rel => exact ⟨k + 1, _, by omega, by go_num, by rw [List.replicate_succ']; exact HI4.out⟩
    · obtain rfl : k = lenW m := by omega
      have hown := HV.out.row
      have e0 : (packR m (upto f 0)).map wordC = List.replicate (lenW m) (.int .u64 0) := by rw [pack_none, List.map_replicate]; rfl
      rw [← e0] at HV
      clear hown e0 b1 k0 k4
      go_wp2_with (go_at_call 55; refine (CW.out _).mono ?_; rintro e w' ⟨rfl, rfl⟩)
      go_loopg [5] m (fun n1 i wr => ∃ (k : Nat) (v : Value), k + n1 = m ∧ i = .int .i64 k ∧ OfInv w wr m v (lenW m) ((packR m (upto f k)).map wordC))
      case atStart => exact ⟨0, _, by omega, by go_num, HV.out⟩
      case round =>
        clear HV
        obtain ⟨k, v, hkn, rfl, hinv⟩ := hrel
        have HV := Lib.hid hinv
        have b1 := hinv.box.k1
        clear hinv
        have k0 : (0 : Int) ≤ k := by omega
        have k4 : (k : Int) ≤ 4096 := by omega
        by_cases hlt : k < m
        · obtain ⟨n', rfl⟩ : ∃ n', gk = n' + 1 := ⟨gk - 1, by omega⟩
          have i1 : (k : Int) < m := by omega
          obtain ⟨g, rfl, hg, hc⟩ := (HW.out.below HV.out.below) (by omega)
          have c0 := hc k hlt
          clear hc
          cases hf : f k
          · rw [hf] at c0
            have HS := Lib.hid (pack_skip m k f hf)
            clear hf
            go_wp2_with fail
            go_roundg n'
            case measure => omega
            case rel => exact ⟨k + 1, v, by omega, by go_num, by rw [HS.out]; exact HV.out⟩
          · rw [hf] at c0
            have HS := Lib.hid (pack_step hm hlt f hf)
            clear hf
            have hrow := HV.out.row
            obtain ⟨g', cap', rfl, hg1, hg2, hcw⟩ := own_row hrow (show 0 < lenW m by unfold lenW; omega)
            have hq : k / 64 < (packR m (upto f k)).length := by rw [pack_len]; unfold lenW; omega
            have hx := (pack_valid hm (upto f k)).lt _ (List.getElem_mem hq)
            have c5 := hcw (k / 64) (wordC (packR m (upto f k))[k / 64]) (by rw [List.getElem?_map, List.getElem?_eq_getElem hq]; rfl)
            rw [List.getElem?_eq_getElem hq] at HS
            obtain ⟨q, hqe⟩ : ∃ q, q = k / 64 := ⟨_, rfl⟩
            obtain ⟨r, hre⟩ : ∃ r, r = k % 64 := ⟨_, rfl⟩
            have e1 : ((k : Int).tdiv 64) = (q : Int) := by rw [Int.tdiv_eq_ediv_of_nonneg (by omega)]; omega
            have e1' : ((k : Int) / 64) = (q : Int) := by omega
            have e2 : ((k : Int).tmod 64) = (r : Int) := by rw [Int.tmod_eq_emod_of_nonneg (by omega)]; omega
            have e2' : ((k : Int) % 64) = (r : Int) := by omega
            have ql : q < lenW m := by unfold lenW; omega
            have i2 : (q : Int) < ((lenW m : Nat) : Int) := by omega
            have q0 : (0 : Int) ≤ q := by omega
            have r0 : (0 : Int) ≤ r := by omega
            have r1 : (r : Int) < 64 := by omega
            have r64 : r < 64 := by omega
            have q64 : (q : Int) ≤ 64 := by omega
            generalize (packR m (upto f k))[k / 64] = x at c5 hx HS
            rw [← hqe, ← hre] at HS
            rw [← hqe] at c5
            clear hcw hrow hqe hre hq
            unfold wordC at c5
            have e4 : IntKind.i64.wrap (q : Int) = (q : Int) := IntWalk.i64_in _ (by omega)
            have e5 : IntKind.i64.wrap (r : Int) = (r : Int) := IntWalk.i64_in _ (by omega)
            go_wp2_with fail
            have hor := or_bit x r hx r64
            go_still_tail 16, (by kernel_rfl)
            try rw [hor]
            change wpList _ _ _ _ _ wr.drew
            have HD := Lib.hid (HV.out.call (drewOne _ wr))
            have c6 : wr.drew.cell? ⟨g', q, none⟩ = some (.int .u64 (x : Int)) := c5
            generalize wr.drew = wd at HD c6 ⊢
            clear c5
            have f5 := (ownsRow_set (j := q) (wordC (x ||| 2 ^ r)) HD.out.row).2.1
            have HST := Lib.hid (HD.out.store q (wordC (x ||| 2 ^ r)) hg1)
            rw [← List.map_set] at HST
            rw [Option.getD_some] at HS
            rw [HS.out] at HST
            go_wp2_with fail
            go_roundg n'
            case measure => omega
            case rel => exact ⟨k + 1, _, by omega, by go_num, HST.out⟩
        · obtain rfl : k = m := by omega
          obtain ⟨p', cap', rfl, hw', hn'⟩ := own_words HV.out.row (by rw [pack_len]) (by unfold maxLen; omega) (pack_valid hm _).lt
          rw [pack_upto] at hw'
          have HWS := Lib.hid hw'; have HNW := Lib.hid hn'
          obtain ⟨a0, a1, f0, f1, _⟩ := HV.out.res
          have b0 := HV.out.box.k0
          clear hw' hn'
          go_wp2_with fail
          refine bodyPost_ret (v := .agg #[.int .i64 (k : Int), .slice p' (lenW k) cap']) (by simp [results, Tryd.results52, go_sem, a0, a1, f0, f1]) rfl ?_
          exact ⟨p', cap', rfl, HWS.out.set2 (fun g off e h => by have := HNW.out g off e; omega) _ _, (fun g off e => by have := HNW.out g off e; omega), set2B HV.out.below (Nat.le_refl _) _ _⟩
end Go.Proofs.YtocgdibadcmnfaaDoor
