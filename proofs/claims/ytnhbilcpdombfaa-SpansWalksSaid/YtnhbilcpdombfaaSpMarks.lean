/- The reference's Marks. -/
import Derived.Test.YtnhbilcpdombfaaSpRCheck
namespace Go.Proofs.Ytnhbilcpdombfaa
open Go.RowKit

/-- An array of 1024 truth values. -/
def boolA (f : Nat → Bool) (n : Nat) : Array Value := ((List.range n).map fun j => Value.bool (f j)).toArray
theorem boolA_size (f : Nat → Bool) (n : Nat) : (boolA f n).size = n := by simp [boolA]
theorem boolA_get (f : Nat → Bool) {n k : Nat} (h : k < n) : (boolA f n)[k]? = some (.bool (f k)) := by simp [boolA, h]
theorem boolA_set {f g : Nat → Bool} {n k : Nat} {b : Bool} (hk : g k = b) (h : ∀ i, i ≠ k → g i = f i) : (boolA f n).setIfInBounds k (.bool b) = boolA g n := by
  apply Array.ext_getElem?
  intro q
  rw [Array.getElem?_setIfInBounds, boolA_size]
  by_cases hq : q < n
  · rw [boolA_get _ hq, boolA_get _ hq]
    by_cases e : k = q
    · subst e; simp [hq, hk]
    · simp [e, h q (fun h => e h.symm)]
  · rw [Array.getElem?_eq_none (by rw [boolA_size]; omega), Array.getElem?_eq_none (by rw [boolA_size]; omega)]
    by_cases e : k = q <;> simp [e, hq]
theorem boolA_congr {f g : Nat → Bool} {n : Nat} (h : ∀ i, i < n → f i = g i) : boolA f n = boolA g n := by
  unfold boolA
  congr 1
  exact List.map_congr_left fun i hi => by rw [h i (List.mem_range.1 hi)]
theorem boolA_zero : Try.zeroCells69 = boolA (fun _ => false) 1024 := by kernel_rfl
theorem boolA_list (f : Nat → Bool) (n : Nat) : (boolA f n).toList = (List.range n).map fun j => Value.bool (f j) := by simp [boolA]
theorem range_boolA {W : World} {B : Nat} {f : Nat → Bool} {t : TypeId} (h : W.heap[B]? = some (.cells (boolA f 1024) t (0, 0))) : W.rangeAt B 0 ((List.range 1024).map fun j => Value.bool (f j)) := fun j v hj => by
  rw [Nat.zero_add]
  exact row_cell h (by rw [← hj]; simp [boolA])
theorem info_boolA : (Try.prog.info? 69).map (·.size) = some 1024 := by kernel_rfl
theorem info_boolL (f : Nat → Bool) : (Try.prog.info? 69).map (·.size) = some ((List.range 1024).map fun j => Value.bool (f j)).length := by
  rw [show ((List.range 1024).map fun j => Value.bool (f j)).length = 1024 by simp]; exact info_boolA
theorem wp_load_boolA {op : Oper} {a : Act} {W : World} {K : Act → World → Prop} {Q : Exit → Act → World → Prop} {x : Operand} {B : Nat} {f : Nat → Bool} (ho : op.op = .load 69 x) (hx : a.eval x = .pointer (some ⟨B, 0, none⟩))
    (h : W.heap[B]? = some (.cells (boolA f 1024) 69 (0, 0))) (hk : K (a.put op.dst (.agg (boolA f 1024))) W) : op.wp Try.prog a W K Q :=
  wp_load_mid (P := Try.prog) 69 x ho B 0 hx ((List.range 1024).map fun j => Value.bool (f j)) _ (range_boolA h) Try.underlying69 rfl (info_boolL f) hk
theorem boolA_cells (f : Nat → Bool) (n : Nat) : (boolA f n).all (·.oneCell') = true := by
  rw [Array.all_eq_true_iff_forall_mem]
  intro v hv
  obtain ⟨j, _, rfl⟩ : ∃ j, j ∈ List.range n ∧ Value.bool (f j) = v := by simpa [boolA] using hv
  rfl
theorem there_boolA {W : World} {B : Nat} {g : Nat → Bool} {t : TypeId} (h : W.heap[B]? = some (.cells (boolA g 1024) t (0, 0))) : W.there B 0 1024 := fun j hj => by
  rw [Nat.zero_add]
  exact ⟨by rw [row_cell h (boolA_get g hj)]; rfl, row_free h⟩
theorem wp_store_boolA {op : Oper} {a : Act} {W : World} {K : Act → World → Prop} {Q : Exit → Act → World → Prop} {x y : Operand} {B : Nat} {f g : Nat → Bool} (ho : op.op = .store 69 x y) (hx : a.eval x = .pointer (some ⟨B, 0, none⟩)) (hy : a.eval y = .agg (boolA f 1024))
    (h : W.heap[B]? = some (.cells (boolA g 1024) 69 (0, 0))) (hk : K (a.put op.dst undef) (W.setCells B 0 (boolA f 1024).toList)) : op.wp Try.prog a W K Q :=
  wp_store_mid (P := Try.prog) 69 x y ho B 0 (boolA f 1024) hx hy (by rw [boolA_size]; exact there_boolA h) (by rw [boolA_size]; exact info_boolA) (boolA_cells f 1024) hk
theorem run_store_boolA {W : World} {B : Nat} {f g : Nat → Bool} {t : TypeId} (h : W.heap[B]? = some (.cells (boolA g 1024) t (0, 0))) : (storeCells ⟨B, 0, none⟩ (boolA f 1024).toList).run Try.prog W = .ok () (W.setCells B 0 (boolA f 1024).toList) := by
  have ht := there_boolA h
  have hz : (boolA f 1024).toList.length = 1024 := by rw [Array.length_toList, boolA_size]
  have := run_storeCells_cells (P := Try.prog) B 0 (boolA f 1024).toList 0 W (fun j hj => by simpa using (ht j (by omega)).1) (fun j hj => by simpa using (ht j (by omega)).2) (fun v hv => (Array.all_eq_true_iff_forall_mem.1 (boolA_cells f 1024)) v (by simpa using hv))
  simpa using this
theorem below_setCells {base B : Nat} (hB : base ≤ B) : ∀ (vs : List Value) (o : Nat) (W : World), Below base W (W.setCells B o vs)
  | [], _, _ => Below.refl _ _
  | v :: vs, o, W => (Below.setCell (p := ⟨B, o, none⟩) (Below.refl _ _) hB v).trans (below_setCells hB vs (o + 1) _)
/-- The box of the result, the array that is filled. -/
structure MkInv (w W : World) (f : Nat → Bool) : Prop where
  below : Below w.heap.size w W
  res : W.heap[w.heap.size]? = some (.cells (boolA (fun _ => false) 1024) 69 (0, 0))
  row : W.heap[w.heap.size + 1]? = some (.cells (boolA f 1024) 69 (0, 0))
theorem MkInv.call {w W W' : World} {f : Nat → Bool} (h : MkInv w W f) (hb : Below W.heap.size W W') : MkInv w W' f :=
  ⟨h.below.trans (hb.mono h.below.size), (hb.block _ (Array.getElem?_eq_some_iff.1 h.res).1).trans h.res, (hb.block _ (Array.getElem?_eq_some_iff.1 h.row).1).trans h.row⟩
theorem MkInv.set {w W : World} {f g : Nat → Bool} (h : MkInv w W f) {k : Nat} (hk : g k = true) (hg : ∀ i, i ≠ k → g i = f i) : MkInv w (W.setCell ⟨w.heap.size + 1, k, none⟩ (.bool true)) g := by
  refine ⟨Below.setCell (p := ⟨w.heap.size + 1, k, none⟩) h.below (by show w.heap.size ≤ w.heap.size + 1; omega) _, ?_, by rw [heap_set _ h.row, boolA_set hk hg]⟩
  rw [Below.heap_setCell _ _ _ _ (by simp)]; exact h.res
theorem MkInv.at_ {w W : World} {f : Nat → Bool} (h : MkInv w W f) {k : Nat} (hk : k < 1024) : W.cell? ⟨w.heap.size + 1, k, none⟩ = some (.bool (f k)) ∧ W.frozen? ⟨w.heap.size + 1, k, none⟩ = false := ⟨row_cell h.row (boolA_get f hk), row_free h.row⟩
def fillF (f : Nat → Bool) (a p : Nat) : Nat → Bool := fun q => f q || (decide (a ≤ q) && decide (q < p))
theorem fillF_start (f : Nat → Bool) (a : Nat) : fillF f a a = f := by
  funext q
  have : (decide (a ≤ q) && decide (q < a)) = false := by simp
  unfold fillF; rw [this, Bool.or_false]
theorem fillF_at (f : Nat → Bool) {a p : Nat} (h : a ≤ p) : fillF f a (p + 1) p = true := by unfold fillF; simp [h]
theorem fillF_ne (f : Nat → Bool) (a p : Nat) : ∀ i, i ≠ p → fillF f a (p + 1) i = fillF f a p i := fun i hi => by
  unfold fillF
  have : decide (i < p + 1) = decide (i < p) := decide_eq_decide.2 (by omega)
  rw [this]
theorem fillF_end (s : List (Nat × Nat)) (x : Nat × Nat) : fillF (inS s) x.1 (x.1 + x.2) = inS (s ++ [x]) := by
  funext q
  rw [inS_append, inS_one]; rfl
theorem results_boolA {W : World} {tmps : Array Value} {B : Nat} {f : Nat → Bool} (hx : tmps[2]? = some (.pointer (some ⟨B, 0, none⟩))) (h : W.rangeAt B 0 (boolA f 1024).toList) : (results Try.f51 tmps).run Try.prog W = .ok (.agg (boolA f 1024)) W := by
  have hl := run_loadVar_mid (P := Try.prog) W B 0 69 (boolA f 1024).toList _ h Try.underlying69 rfl (by rw [boolA_list]; exact info_boolL f)
  simp [results, Try.results51, hx, hl, Sem.run_bind, asAddr]
set_option maxHeartbeats 4000000 in
set_option maxRecDepth 100000 in
theorem rmarks_any (s : List (Nat × Nat)) (p : Option Addr) (cap : Nat) (w : World) (h : SpsAt w p (up s)) (hok : Okay s) (hl : s.length ≤ 2100) :
    Calls Try.prog 51 #[.slice p s.length cap] w fun e w' => e = .returned (.agg (boolA (inS s) 1024)) ∧ Below w.heap.size w w' := by
  have HW := Lib.hid h; have HOK := Lib.hid hok
  have l4 : (s.length : Int) ≤ 2100 := by omega
  have HM := Lib.hid (show MkInv w ((w.alloc (.cells Try.zeroCells69 69)).alloc (.cells Try.zeroCells69 69)) (inS []) from by
    have hz : (w.alloc (.cells Try.zeroCells69 69)).heap.size = w.heap.size + 1 := by simp
    refine ⟨((Below.refl _ _).alloc (Nat.le_refl _) _).alloc (by simp) _, ?_, ?_⟩
    · rw [Below.heap_alloc _ _ _ (by simp), boolA_zero]; exact heap_alloc_new _ _
    · have := heap_alloc_new (w.alloc (.cells Try.zeroCells69 69)) (.cells Try.zeroCells69 69)
      rw [hz] at this
      rw [this, boolA_zero]; rfl)
  clear h hok
  go_enter Try.func51, Try.ntmps51
  go_wp2_with fail
  go_loopg [4] s.length (fun n1 i W => ∃ k : Nat, k + n1 = s.length ∧ i = .int .i64 k ∧ MkInv w W (inS (s.take k)))
  case atStart => exact ⟨0, by omega, by go_num, HM.out⟩
  case round =>
    clear HM
    obtain ⟨k, hkn, rfl, hinv⟩ := hrel
    have HI := Lib.hid hinv
    clear hinv
    have k0 : (0 : Int) ≤ k := by omega
    by_cases hlt : k < s.length
    · obtain ⟨n', rfl⟩ : ∃ n', gk = n' + 1 := ⟨gk - 1, by omega⟩
      obtain ⟨g, off, rfl, hg0, hcw⟩ := HW.out.at_ (by rw [up_len]; omega)
      obtain ⟨x0, x1⟩ := hcw k (by rw [up_len]; exact hlt)
      have d0 := (HI.out.below.cell (p := ⟨g, off + k * 2, none⟩) hg0).trans x0
      rw [up_get] at d0 x0 x1
      obtain ⟨v1, v2⟩ := HOK.out _ (List.getElem_mem hlt)
      have htk : s.take (k + 1) = s.take k ++ [s[k]'hlt] := by rw [List.take_add_one, List.getElem?_eq_getElem hlt]; rfl
      have hfe := fillF_end (s.take k) (s[k]'hlt)
      rw [← htk] at hfe
      generalize (s[k]'hlt).1 = a at d0 x0 v2 hfe
      generalize (s[k]'hlt).2 = b at x1 v1 v2 hfe
      generalize inS (s.take k) = f at HI hfe
      obtain ⟨e, he⟩ : ∃ e, e = a + b := ⟨_, rfl⟩
      rw [← he] at hfe v2
      have e1 : IntKind.i64.wrap ((a : Int) + (b : Int)) = (a : Int) + (b : Int) := IntWalk.i64_in _ (by omega)
      have e2 : (a : Int) + (b : Int) = (e : Int) := by omega
      have HE2 := Lib.hid e2
      clear e2
      have HFE := Lib.hid hfe; have HX0 := Lib.hid x0; have HX1 := Lib.hid x1
      have i1 : (k : Int) < s.length := by omega
      clear hcw hfe htk x0 x1
      go_wp2_with fail
      go_loopg [5] b (fun n1 q W => ∃ p : Nat, p + n1 = e ∧ a ≤ p ∧ q = .int .i64 p ∧ MkInv w W (fillF f a p))
      case atStart => exact ⟨a, by omega, Nat.le_refl _, rfl, by rw [fillF_start]; exact HI.out⟩
      case round =>
        clear HI d0
        obtain ⟨p, hpn, hap, rfl, hinv⟩ := hrel
        have HI := Lib.hid hinv
        clear hinv
        have d0 := (HI.out.below.cell (p := ⟨g, off + k * 2, none⟩) hg0).trans HX0.out
        have d1 := (HI.out.below.cell (p := ⟨g, off + k * 2 + 1, none⟩) hg0).trans HX1.out
        have p0 : (0 : Int) ≤ p := by omega
        by_cases hlt2 : p < e
        · obtain ⟨n2', rfl⟩ : ∃ n2', gk = n2' + 1 := ⟨gk - 1, by omega⟩
          have i2 : (p : Int) < (a : Int) + (b : Int) := by have := HE2.out; omega
          have i3 : (p : Int) < 1024 := by omega
          have hp4 : p < 1024 := by omega
          clear he
          go_wp2_with fail
          go_quiet (fail)
          have HD := Lib.hid (HI.out.call (drewB wr.heap.size nq wr))
          have HST := Lib.hid (HD.out.set (fillF_at f hap) (fillF_ne f a p))
          obtain ⟨y0, y1⟩ := HD.out.at_ hp4
          generalize wr.drewN nq = wd at HST y0 y1 ⊢
          clear d0 d1
          go_wp2_with fail
          go_roundg n2'
          case measure => omega
          case rel => exact ⟨p + 1, by omega, by omega, by go_num, HST.out⟩
        · obtain rfl : p = e := by omega
          have HF := HI.out
          rw [HFE.out] at HF
          have HFF := Lib.hid HF
          have i2 : ¬ (p : Int) < (a : Int) + (b : Int) := by have := HE2.out; omega
          clear HF he
          go_wp2_with fail
          go_quiet (fail)
          have HD := Lib.hid (HFF.out.call (drewB wr.heap.size nq wr))
          generalize wr.drewN nq = wd at HD ⊢
          clear d0 d1
          go_wp2_with fail
          go_roundg n'
          case measure => omega
          case rel => exact ⟨k + 1, by omega, by go_num, HD.out⟩
    · obtain rfl : k = s.length := by omega
      have HF := HI.out
      rw [List.take_length] at HF
      have HFF := Lib.hid HF
      have i1 : ¬ ((s.length : Nat) : Int) < s.length := by omega
      clear HF HI
      go_wp2_with fail
      refine wp_load_boolA rfl rfl HFF.out.row ?_
      have hst := run_store_boolA (f := inS s) HFF.out.res
      have hb := below_setCells (base := w.heap.size) (Nat.le_refl _) (boolA (inS s) 1024).toList 0 wr
      have hr := World.rangeAt_setCells_same wr w.heap.size 0 (boolA (inS s) 1024).toList (by rw [boolA_list]; simpa using there_boolA HFF.out.res)
      have HBB := Lib.hid (HFF.out.below.trans hb); have HRR := Lib.hid hr
      clear hb hr
      generalize wr.setCells w.heap.size 0 (boolA (inS s) 1024).toList = ws at HBB HRR hst
      go_wp2_with fail
      refine bodyPost_ret (v := .agg (boolA (inS s) 1024)) (results_boolA rfl HRR.out) rfl ?_
      exact ⟨rfl, HBB.out⟩
end Go.Proofs.Ytnhbilcpdombfaa
