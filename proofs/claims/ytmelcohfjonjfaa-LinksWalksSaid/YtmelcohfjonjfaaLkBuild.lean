/- links: slices.Repeat of one number. links: slices.Repeat of one number, walked. links: build, Save. -/
import Derived.Test.YtmelcohfjonjfaaLkCopy
import Derived.Test.YtmelcohfjonjfaaShelf
import Derived.Laws.CopyRow
import Derived.Laws.OwnMore
import Derived.BigFrame
import Derived.BigRegion
namespace Go.Proofs.Ytmelcohfjonjfaa
open Go.RowKit

def rowK (n k : Nat) (a b : Value) : List Value := List.replicate k a ++ List.replicate (n - k) b
theorem rowK_len {n k : Nat} (a b : Value) (h : k ≤ n) : (rowK n k a b).length = n := by simp [rowK]; omega
theorem rowK_put {n k j : Nat} (a b : Value) (h : k ≤ n) (hj : j ≤ n - k) : (rowK n k a b).take k ++ List.replicate j a ++ (rowK n k a b).drop (k + j) = rowK n (k + j) a b := by
  unfold rowK
  rw [List.take_left' (by simp), List.drop_append]
  simp only [List.length_replicate, List.drop_replicate, ← List.replicate_append_replicate]
  rw [show k - (k + j) = 0 by omega, show n - k - (k + j - k) = n - (k + j) by omega]
  simp
theorem rowK_get {n k j : Nat} (a b : Value) (hj : j < k) : (rowK n k a b)[j]? = some a := by
  unfold rowK
  rw [List.getElem?_append_left (by simpa using hj), List.getElem?_replicate, if_pos hj]
theorem made_int (W : World) (n : Nat) (hn : n ≤ 2000) : (Instr.makeSlice 29 (.int .i64 (n : Int)) (.int .i64 (n : Int))).run Try.prog W = .ok (.slice (some ⟨W.heap.size, 0, none⟩) n n) (W.alloc (.cells (rowK n 0 (.int .i64 (-1)) (.int .i64 0)).toArray 3)) := by
  obtain ⟨i0, hi, hz0, hz1, hz2⟩ := info_partsB info_int
  have := run_make (P := Try.prog) W 29 3 i0 (.int .i64 0) Try.underlying29 hi hz0 .i64 .i64 (n : Int) n (by omega) (Int.le_refl _) (by rw [hz2]; omega) (by omega)
  rw [this, toNat_cast, hz1, Nat.mul_one]
  have e : madeCells (Value.int .i64 0).cells n = (rowK n 0 (.int .i64 (-1)) (.int .i64 0)).toArray := by
    apply Array.ext'
    rw [show (Value.int .i64 0).cells = #[.int .i64 0] from rfl, toList_madeCells_one]
    simp [rowK]
  rw [e]
/-- A row of n cells, of which k are -1. -/
def RowK (W : World) (g n k : Nat) : Prop := W.heap[g]? = some (.cells (rowK n k (.int .i64 (-1)) (.int .i64 0)).toArray 3 (0, 0))
theorem copy_rowK {W : World} {g n k j c c' : Nat} {a : Addr} (h : RowK W g n k) (hk : k ≤ n) (ha : ∀ i, i < j → W.cell? (a.add i) = some (.int .i64 (-1))) {l : Nat} (hj : j = Nat.min l (n - k)) :
    (Builtin.copy_ #[29, 29] 3 #[.slice (some ⟨g, k, none⟩) (n - k) c, .slice (some a) l c']).run Try.prog W = .ok (.int .i64 (j : Int)) (W.setRow g (rowK n (k + j) (.int .i64 (-1)) (.int .i64 0)).toArray) := by
  have hj' : j ≤ n - k := by rw [hj]; exact Nat.min_le_right _ _
  have := run_copy_row (P := Try.prog) W 29 29 3 3 g k (n - k) c a l c' _ 3 (List.replicate j (.int .i64 (-1))) Try.underlying29 (by kernel_rfl) h (by rw [List.length_replicate, hj]) (fun i v hv => by
      rw [List.getElem?_replicate] at hv
      by_cases hi : i < j
      · rw [if_pos hi] at hv; cases hv; exact ha i hi
      · rw [if_neg hi] at hv; cases hv) (by simp [rowK_len, hk]; omega) (fun v hv => by rw [(List.mem_replicate.1 hv).2]; rfl)
  rw [this, List.length_replicate, List.toList_toArray, rowK_put _ _ hk hj']
  rfl
theorem setRow_row {W : World} {g : Nat} {cs cs' : Array Value} {t : TypeId} (h : W.heap[g]? = some (.cells cs t (0, 0))) : (W.setRow g cs').heap[g]? = some (.cells cs' t (0, 0)) := by
  obtain ⟨hlt, h'⟩ := Array.getElem?_eq_some_iff.1 h
  show (W.heap.modify g _)[g]? = _
  rw [Array.getElem?_eq_getElem (by simpa using hlt), Array.getElem_modify_self, h']
end Go.Proofs.Ytmelcohfjonjfaa
namespace Go.Proofs.Ytmelcohfjonjfaa
open Go.RowKit

theorem mul_one (n : Nat) (hn : n ≤ 2000) (W : World) : Calls Try.prog 68 #[.int .u64 1, .int .u64 (n : Int)] W (OkEq (.tuple #[.int .u64 0, .int .u64 (n : Int)]) W) := by
  have := Try.bits_Mul 1 n (by decide) (by omega) W
  rw [Nat.one_mul, Nat.div_eq_of_lt (by omega), Nat.mod_eq_of_lt (by omega)] at this
  exact this
theorem rowK_row {W : World} {g n : Nat} (h : RowK W g n n) : RowF W g n (fun _ => -1) := by
  refine ⟨_, h, by simp [rowK_len], fun j hj => ?_⟩
  rw [List.getElem?_toArray]
  exact rowK_get _ _ hj
theorem below_setRow {D : Nat} {a w : World} (h : Below D a w) {g : Nat} (hg : D ≤ g) (cs : Array Value) : Below D a (w.setRow g cs) := by
  refine h.trans ⟨rfl, rfl, rfl, by simp [World.setRow], fun k hk => ?_⟩
  show (w.heap.modify g _)[k]? = _
  rw [Array.getElem?_modify, if_neg (by omega)]
set_option maxHeartbeats 2000000 in
set_option maxRecDepth 100000 in
theorem repeat_any {W : World} {b c n : Nat} (hb : W.cell? ⟨b, 0, none⟩ = some (.int .i64 (-1))) (hn : 1 ≤ n) (hm : n ≤ 2000) :
    Calls Try.prog 39 #[.slice (some ⟨b, 0, none⟩) 1 c, .int .i64 (n : Int)] W (ClonePost n (fun _ => -1) W) := by
  have j0 : (0 : Int) ≤ n := by omega
  have w1 : IntKind.u64.wrap (n : Int) = n := IntWalk.u64_in _ (by omega)
  have w2 : IntKind.i64.wrap (n : Int) = n := IntWalk.i64_in _ (by omega)
  have x1 : ¬ (9223372036854775807 : Int) < n := by omega
  have CM := Lib.hid (mul_one n hm W)
  have MK := made_int W n hm
  have hR : RowK (W.alloc (.cells (rowK n 0 (.int .i64 (-1)) (.int .i64 0)).toArray 3)) W.heap.size n 0 := heap_alloc_new W _
  have hlt : b < W.heap.size := World.block_lt_of_cell? _ _ hb
  have CP := copy_rowK hR (Nat.zero_le _) (c := n) (c' := c) (a := ⟨b, 0, none⟩) (j := 1) (l := 1) (fun i hi => by
    have e : i = 0 := by omega
    subst e
    exact (((Below.refl _ W).alloc (Nat.le_refl _) _).cell hlt).trans hb) (by rw [Nat.sub_zero]; exact (Nat.min_eq_left hn).symm)
  rw [Nat.sub_zero, Nat.zero_add] at CP
  have HN := Lib.hid hn; have HM := Lib.hid hm; have HR := Lib.hid hR
  clear hn hm hR hlt hb
  go_enter Try.func39, Try.ntmps39
  go_wp2_with fail
  refine CM.out.mono ?_
  rintro e w1 ⟨rfl, rfl⟩
  go_wp2_with fail
  have hR1 : RowK ((w1.alloc (.cells (rowK n 0 (.int .i64 (-1)) (.int .i64 0)).toArray 3)).setRow w1.heap.size (rowK n 1 (.int .i64 (-1)) (.int .i64 0)).toArray) w1.heap.size n 1 := setRow_row HR.out
  have hB1 : Below w1.heap.size w1 ((w1.alloc (.cells (rowK n 0 (.int .i64 (-1)) (.int .i64 0)).toArray 3)).setRow w1.heap.size (rowK n 1 (.int .i64 (-1)) (.int .i64 0)).toArray) := below_setRow ((Below.refl _ w1).alloc (Nat.le_refl _) _) (Nat.le_refl _) _
  generalize (w1.alloc (.cells (rowK n 0 (.int .i64 (-1)) (.int .i64 0)).toArray 3)).setRow w1.heap.size (rowK n 1 (.int .i64 (-1)) (.int .i64 0)).toArray = w2 at hR1 hB1 ⊢
  obtain ⟨g, hg⟩ : ∃ g, g = w1.heap.size := ⟨_, rfl⟩
  rw [← hg] at hR1 hB1 ⊢
  have HG := Lib.hid (Nat.le_of_eq hg.symm)
  clear hg
  clear CP MK HR CM x1
  go_loopg [8] n (fun n1 i wr => ∃ k : Nat, i = .int .i64 (k : Int) ∧ 1 ≤ k ∧ k ≤ n ∧ n ≤ k + n1 ∧ RowK wr g n k ∧ Below g w1 wr)
  case atStart => exact ⟨1, rfl, Nat.le_refl _, HN.out, by omega, hR1, hB1⟩
  case round =>
    obtain ⟨k, rfl, k1, k2, k3, hR, hB⟩ := hrel
    by_cases hlt : k < n
    · obtain ⟨n', rfl⟩ : ∃ n', gk = n' + 1 := ⟨gk - 1, by omega⟩
      have i1 : (k : Int) < n := by omega
      have i2 : (k : Int) ≤ n := by omega
      have i3 : (0 : Int) ≤ k := by omega
      obtain ⟨j, hj⟩ : ∃ j, j = Nat.min k (n - k) := ⟨_, rfl⟩
      have hj1 : 1 ≤ j := by rw [hj]; exact Nat.le_min.2 ⟨k1, by omega⟩
      have hj2 : j ≤ k := by rw [hj]; exact Nat.min_le_left _ _
      have hj3 : j ≤ n - k := by rw [hj]; exact Nat.min_le_right _ _
      have CP := copy_rowK (W := wr.drew) (g := g) (n := n) (k := k) (c := n - k) (c' := n) (a := ⟨g, 0, none⟩) (j := j) (l := k) hR k2 (fun i hi => by
        rw [WideShapes.add_plain, Nat.zero_add]
        exact row_cell (W := wr.drew) hR (by rw [List.getElem?_toArray]; exact rowK_get _ _ (by omega))) hj
      have w3 : IntKind.i64.wrap ((k : Int) + (j : Int)) = ((k + j : Nat) : Int) := by rw [IntWalk.i64_in _ (by have := HM.out; omega)]; omega
      have HJ := Lib.hid hj1; have HJ3 := Lib.hid hj3; have HRR := Lib.hid hR
      clear hj hj1 hj2 hj3 hR
      go_wp2_with fail
      go_region
      have hB2 := Lib.hid (below_setRow hB.drew (Nat.le_refl g) (rowK n (k + j) (.int .i64 (-1)) (.int .i64 0)).toArray)
      have hR2 := Lib.hid (show RowK (wr.drew.setRow g (rowK n (k + j) (.int .i64 (-1)) (.int .i64 0)).toArray) g n (k + j) from setRow_row (W := wr.drew) HRR.out)
      clear CP
      go_wp2_with fail
      go_roundg n'
      case measure => omega
      case rel => exact ⟨k + j, by go_num, by have := HJ.out; omega, by have := HJ3.out; omega, by have := HJ.out; omega, hR2.out, hB2.out⟩
    · obtain rfl : k = n := by omega
      have HRR := Lib.hid hR
      clear hR
      go_wp2_with fail
      go_ret
      exact ⟨g, k, rfl, Nat.le_refl _, HG.out, rowK_row HRR.out, hB.mono HG.out⟩
end Go.Proofs.Ytmelcohfjonjfaa
namespace Go.Proofs.Ytmelcohfjonjfaa
open Go.RowKit

/-- The values, those of free slots below k being 0. -/
def freeV (v : Nat → Int) (F : LkF) (k : Nat) : Nat → Int := fun j => if j < k ∧ F.list j = -1 then 0 else v j
theorem freeV_zero (v : Nat → Int) (F : LkF) : freeV v F 0 = v := by funext j; unfold freeV; rw [if_neg (by omega)]
theorem freeV_keep {v : Nat → Int} {F : LkF} {k : Nat} (h : F.list k ≠ -1) : freeV v F (k + 1) = freeV v F k := by
  funext j; unfold freeV
  by_cases e : j = k
  · subst e; rw [if_neg (fun h2 => h h2.2), if_neg (by omega)]
  · by_cases e2 : j < k ∧ F.list j = -1
    · rw [if_pos e2, if_pos ⟨by omega, e2.2⟩]
    · rw [if_neg e2, if_neg (fun h2 => e2 ⟨by omega, h2.2⟩)]
theorem freeV_wipe {v : Nat → Int} {F : LkF} {k : Nat} (h : F.list k = -1) : freeV v F (k + 1) = updF (freeV v F k) k 0 := by
  funext j; unfold freeV updF
  by_cases e : j = k
  · subst e; rw [if_pos ⟨by omega, h⟩, if_pos rfl]
  · rw [if_neg e]
    show _ = if j < k ∧ F.list j = -1 then 0 else v j
    by_cases e2 : j < k ∧ F.list j = -1
    · rw [if_pos e2, if_pos ⟨by omega, e2.2⟩]
    · rw [if_neg e2, if_neg (fun h2 => e2 ⟨by omega, h2.2⟩)]
/-- A pool in new memory. -/
structure NewPool (W W' : World) (B n m : Nat) (D : LkB) (v : Nat → Int) (F : LkF) : Prop where
  pool : PoolAt W' B n m D v F
  old : Below W.heap.size W W'
  new : W.heap.size ≤ B ∧ W.heap.size ≤ D.v ∧ W.heap.size ≤ D.l ∧ W.heap.size ≤ D.n ∧ W.heap.size ≤ D.p ∧ W.heap.size ≤ D.f ∧ W.heap.size ≤ D.a
def BuildPost (n m : Nat) (v : Nat → Int) (F : LkF) (W : World) (e : Ending) (W' : World) : Prop := ∃ B D, e = .returned (.pointer (some ⟨B, 0, none⟩)) ∧ NewPool W W' B n m D (freeV v F n) F
/-- The new rows, and a box for the pool behind them. -/
theorem pool_new {W z : World} {n m : Nat} {D : LkB} {v : Nat → Int} {F : LkF} (h : NewRows W z n m D v F) (nn : 1 ≤ n ∧ n ≤ 2000) (mm : 1 ≤ m ∧ m ≤ 64) :
    NewPool W (z.alloc (.cells #[.pointer (some ⟨z.heap.size, 0, none⟩), .slice (some ⟨D.v, 0, none⟩) n D.cv, .slice (some ⟨D.l, 0, none⟩) n D.cl, .slice (some ⟨D.n, 0, none⟩) n D.cn, .slice (some ⟨D.p, 0, none⟩) n D.cp, .slice (some ⟨D.f, 0, none⟩) m D.cf, .slice (some ⟨D.a, 0, none⟩) m D.ca] 81)) z.heap.size n m D v F := by
  obtain ⟨r, hb, hge, hne, hk⟩ := h
  generalize hA : (Obj.cells #[.pointer (some ⟨z.heap.size, 0, none⟩), .slice (some ⟨D.v, 0, none⟩) n D.cv, .slice (some ⟨D.l, 0, none⟩) n D.cl, .slice (some ⟨D.n, 0, none⟩) n D.cn, .slice (some ⟨D.p, 0, none⟩) n D.cp, .slice (some ⟨D.f, 0, none⟩) m D.cf, .slice (some ⟨D.a, 0, none⟩) m D.ca] 81) = A
  have e0 : (z.alloc A).heap[z.heap.size]? = some A := heap_alloc_new z A
  have hs := hb.size
  have tv := r.rv.lt; have tl := r.rl.lt; have tn := r.rn.lt; have tp := r.rp.lt; have tf := r.rf.lt; have ta := r.ra.lt
  have HB : Below z.heap.size z (z.alloc A) := (Below.refl _ z).alloc (Nat.le_refl _) A
  subst hA
  refine ⟨⟨e0, r.rv.below HB tv, r.rl.below HB tl, r.rn.below HB tn, r.rp.below HB tp, r.rf.below HB tf, r.ra.below HB ta, ?_, nn, mm, hk⟩, hb.trans (HB.mono hs), hs, by omega, by omega, by omega, by omega, by omega, by omega⟩
  · simp only [List.nodup_cons, List.mem_cons, not_or, List.not_mem_nil, not_false_eq_true, and_true, List.nodup_nil]
    omega
theorem new_less {W V W' : World} {B n m : Nat} {D : LkB} {v : Nat → Int} {F : LkF} (h : NewPool V W' B n m D v F) (hb : Below W.heap.size W V) : NewPool W W' B n m D v F := by
  have hs := hb.size
  obtain ⟨p, o, n1, n2, n3, n4, n5, n6, n7⟩ := h
  exact ⟨p, hb.trans (o.mono hs), by omega, by omega, by omega, by omega, by omega, by omega, by omega⟩
theorem new_below {W V W' : World} {B n m : Nat} {D : LkB} {v : Nat → Int} {F : LkF} (h : NewPool W V B n m D v F) (hb : BelowS D.S V.heap.size V W') : Below W.heap.size W W' := by
  have hs := h.old.size
  refine ⟨hb.os.trans h.old.os, hb.tape.trans h.old.tape, hb.output.trans h.old.output, Nat.le_trans hs hb.size, fun k hk => (hb.block k (by omega) ?_).trans (h.old.block k hk)⟩
  obtain ⟨n1, n2, n3, n4, n5, n6, n7⟩ := h.new
  rintro (e | e | e | e | e | e) <;> omega
theorem new_step {W V W' : World} {B n m : Nat} {D : LkB} {v v' : Nat → Int} {F F' : LkF} (h : NewPool W V B n m D v F) (p : PoolAt W' B n m D v' F') (hb : BelowS D.S V.heap.size V W') : NewPool W W' B n m D v' F' :=
  ⟨p, new_below h hb, h.new⟩
def boxP (z : World) (D : LkB) (n m : Nat) : World := z.alloc (.cells #[.pointer (some ⟨z.heap.size, 0, none⟩), .slice (some ⟨D.v, 0, none⟩) n D.cv, .slice (some ⟨D.l, 0, none⟩) n D.cl, .slice (some ⟨D.n, 0, none⟩) n D.cn, .slice (some ⟨D.p, 0, none⟩) n D.cp, .slice (some ⟨D.f, 0, none⟩) m D.cf, .slice (some ⟨D.a, 0, none⟩) m D.ca] 81)
theorem below_box (z : World) (D : LkB) (n m : Nat) {K : Nat} (hK : K < z.heap.size) {cs : Array Value} {t : TypeId} (h : z.heap[K]? = some (.cells cs t (0, 0))) {v : Value} (hv : cs[1]? = some v) : (boxP z D n m).cell? ⟨K, 1, none⟩ = some v :=
  row_cell (((Below.refl _ z).alloc (Nat.le_refl _) _).block K hK |>.trans h) hv
set_option maxHeartbeats 4000000 in
set_option maxRecDepth 100000 in
theorem build_any {W : World} {n m : Nat} {D : LkB} {v : Nat → Int} {F : LkF} (h : RowsAt W n m D v F) (nn : 1 ≤ n ∧ n ≤ 2000) (mm : 1 ≤ m ∧ m ≤ 64) :
    Calls Try.prog 40 #[stV n m D] W (BuildPost n m v F W) := by
  obtain ⟨A, hA⟩ : ∃ A : Obj, A = (.cells #[.slice (some ⟨D.v, 0, none⟩) n D.cv, .slice (some ⟨D.l, 0, none⟩) n D.cl, .slice (some ⟨D.n, 0, none⟩) n D.cn, .slice (some ⟨D.p, 0, none⟩) n D.cp, .slice (some ⟨D.f, 0, none⟩) m D.cf, .slice (some ⟨D.a, 0, none⟩) m D.ca] 39) := ⟨_, rfl⟩
  have hB0 : Below W.heap.size W (W.alloc A) := (Below.refl _ _).alloc (Nat.le_refl _) A
  have h1 : RowsAt (W.alloc A) n m D v F := ⟨h.rv.below hB0 h.rv.lt, h.rl.below hB0 h.rl.lt, h.rn.below hB0 h.rn.lt, h.rp.below hB0 h.rp.lt, h.rf.below hB0 h.rf.lt, h.ra.below hB0 h.ra.lt⟩
  have CC := Lib.hid (copy_any h1 nn mm)
  have HB0 := Lib.hid hB0
  have e0 : (W.alloc A).heap[W.heap.size]? = some A := heap_alloc_new W A
  have hsz : (W.alloc A).heap.size = W.heap.size + 1 := Array.size_push ..
  have HL := Lib.hid h.rl
  have HNN := Lib.hid nn; have HMM := Lib.hid mm
  have HE := Lib.hid e0; have HSZ := Lib.hid hsz
  clear h h1 nn mm hB0 e0 hsz
  unfold stV slc at CC ⊢
  subst hA
  go_enter Try.func40, Try.ntmps40
  go_wp2_with fail
  refine CC.out.mono ?_
  rintro e z ⟨D', rfl, P⟩
  have NP := Lib.hid (pool_new P HNN.out HMM.out)
  have hlt : W.heap.size < z.heap.size := by have := P.old.size; have := HSZ.out; omega
  have hKz := (P.old.block W.heap.size (by rw [HSZ.out]; omega)).trans HE.out
  have hBz : Below W.heap.size W z := HB0.out.trans (P.old.mono (by rw [HSZ.out]; omega))
  have hBw := below_box z D' n m hlt hKz (v := .slice (some ⟨D.l, 0, none⟩) n D.cl) rfl
  unfold boxP at hBw
  have HP := Lib.hid P
  have HBZ := Lib.hid hBz
  clear P hKz hBz CC HE HSZ
  unfold stV slc
  go_wp2_with fail
  have NQ := Lib.hid (new_less NP.out HB0.out)
  clear NP HP HBZ hBw hlt
  generalize z.alloc (.cells #[.pointer (some ⟨z.heap.size, 0, none⟩), .slice (some ⟨D'.v, 0, none⟩) n D'.cv, .slice (some ⟨D'.l, 0, none⟩) n D'.cl, .slice (some ⟨D'.n, 0, none⟩) n D'.cn, .slice (some ⟨D'.p, 0, none⟩) n D'.cp, .slice (some ⟨D'.f, 0, none⟩) m D'.cf, .slice (some ⟨D'.a, 0, none⟩) m D'.ca] 81) = W2 at NQ ⊢
  generalize z.heap.size = B at NQ ⊢
  go_loopg [17] n (fun n1 i wr => ∃ k : Nat, i = .int .i64 (k : Int) ∧ k + n1 = n ∧ NewPool W wr B n m D' (freeV v F k) F)
  case atStart => exact ⟨0, by go_num, by omega, by rw [freeV_zero]; exact NQ.out⟩
  case round =>
    obtain ⟨k, rfl, hkn, hP⟩ := hrel
    by_cases hlt : k < n
    · obtain ⟨n', rfl⟩ : ∃ n', gk = n' + 1 := ⟨gk - 1, by omega⟩
      have hrow := HL.out.below hP.old HL.out.lt
      obtain ⟨y0, _⟩ := hrow.get hlt
      have i1 : (k : Int) < n := by omega
      have k0 : (0 : Int) ≤ k := by omega
      have w1 : IntKind.i64.wrap ((k : Int) + 1) = (k : Int) + 1 := IntWalk.i64_in _ (by have := HNN.out; omega)
      by_cases hx : F.list k = -1
      · have CW := Lib.hid (wipe_any hP.pool k hlt)
        rw [← freeV_wipe hx] at CW
        have HP := Lib.hid hP
        rw [hx] at y0
        clear hx hrow hP
        go_wp2_with fail
        refine CW.out.mono ?_
        rintro e w3 ⟨rfl, P, Bw⟩
        have HP3 := Lib.hid (new_step HP.out P Bw)
        clear P Bw
        go_wp2_with fail
        go_roundg n'
        case measure => omega
        case rel => exact ⟨k + 1, by go_num, by omega, HP3.out⟩
      · have t1 : (F.list k == -1) = false := beq_eq_false_iff_ne.2 hx
        rw [← freeV_keep hx] at hP
        have HP := Lib.hid hP
        generalize F.list k = y at y0 t1
        clear hx hrow hP
        go_wp2_with fail
        go_roundg n'
        case measure => omega
        case rel => exact ⟨k + 1, by go_num, by omega, HP.out⟩
    · obtain rfl : k = n := by omega
      obtain rfl : gk = 0 := by omega
      have HP := Lib.hid hP
      clear hP
      go_wp2_with fail
      go_ret
      exact ⟨B, D', rfl, HP.out⟩
end Go.Proofs.Ytmelcohfjonjfaa
