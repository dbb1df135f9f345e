/- links: build, Save. -/
import Derived.Test.YtnbniflljbbpbaaLkRep
namespace Go.Proofs.Ytnbniflljbbpbaa
open Go.RowKit

/-- The values, those of free slots below k being 0. -/
def freeV (v : Nat → Int) (F : LkF) (k : Nat) : Nat → Int := fun j => if j < k ∧ F.list j = -1 then 0 else v j
theorem freeV_zero (v : Nat → Int) (F : LkF) : freeV v F 0 = v := by funext j; unfold freeV; rw [if_neg (by omega)]
theorem freeV_keep {v : Nat → Int} {F : LkF} {k : Nat} (h : F.list k ≠ -1) : freeV v F (k + 1) = freeV v F k := by
  funext j; unfold freeV
  by_cases e : j = k
  · subst e; rw [if_neg (fun h2 => h h2.2), if_neg (by omega)]
  · by_cases e2 : j < k ∧ F.list j = -1
    · rw [if_pos e2, if_pos ⟨by omega, e2.2⟩]
    · rw [if_neg e2, if_neg (fun h2 => e2 ⟨by omega, h2.2⟩)]
theorem freeV_wipe {v : Nat → Int} {F : LkF} {k : Nat} (h : F.list k = -1) : freeV v F (k + 1) = updF (freeV v F k) k 0 := by
  funext j; unfold freeV updF
  by_cases e : j = k
  · subst e; rw [if_pos ⟨by omega, h⟩, if_pos rfl]
  · rw [if_neg e]
    show _ = if j < k ∧ F.list j = -1 then 0 else v j
    by_cases e2 : j < k ∧ F.list j = -1
    · rw [if_pos e2, if_pos ⟨by omega, e2.2⟩]
    · rw [if_neg e2, if_neg (fun h2 => e2 ⟨by omega, h2.2⟩)]
/-- A pool in new memory. -/
structure NewPool (W W' : World) (B n m : Nat) (D : LkB) (v : Nat → Int) (F : LkF) : Prop where
  pool : PoolAt W' B n m D v F
  old : Below W.heap.size W W'
  new : W.heap.size ≤ B ∧ W.heap.size ≤ D.v ∧ W.heap.size ≤ D.l ∧ W.heap.size ≤ D.n ∧ W.heap.size ≤ D.p ∧ W.heap.size ≤ D.f ∧ W.heap.size ≤ D.a
def BuildPost (n m : Nat) (v : Nat → Int) (F : LkF) (W : World) (e : Ending) (W' : World) : Prop := ∃ B D, e = .returned (.pointer (some ⟨B, 0, none⟩)) ∧ NewPool W W' B n m D (freeV v F n) F
/-- The new rows, and a box for the pool behind them. -/
theorem pool_new {W z : World} {n m : Nat} {D : LkB} {v : Nat → Int} {F : LkF} (h : NewRows W z n m D v F) (nn : 1 ≤ n ∧ n ≤ 2000) (mm : 1 ≤ m ∧ m ≤ 64) :
    NewPool W (z.alloc (.cells #[.pointer (some ⟨z.heap.size, 0, none⟩), .slice (some ⟨D.v, 0, none⟩) n D.cv, .slice (some ⟨D.l, 0, none⟩) n D.cl, .slice (some ⟨D.n, 0, none⟩) n D.cn, .slice (some ⟨D.p, 0, none⟩) n D.cp, .slice (some ⟨D.f, 0, none⟩) m D.cf, .slice (some ⟨D.a, 0, none⟩) m D.ca] 81)) z.heap.size n m D v F := by
  obtain ⟨r, hb, hge, hne, hk⟩ := h
  generalize hA : (Obj.cells #[.pointer (some ⟨z.heap.size, 0, none⟩), .slice (some ⟨D.v, 0, none⟩) n D.cv, .slice (some ⟨D.l, 0, none⟩) n D.cl, .slice (some ⟨D.n, 0, none⟩) n D.cn, .slice (some ⟨D.p, 0, none⟩) n D.cp, .slice (some ⟨D.f, 0, none⟩) m D.cf, .slice (some ⟨D.a, 0, none⟩) m D.ca] 81) = A
  have e0 : (z.alloc A).heap[z.heap.size]? = some A := heap_alloc_new z A
  have hs := hb.size
  have tv := r.rv.lt; have tl := r.rl.lt; have tn := r.rn.lt; have tp := r.rp.lt; have tf := r.rf.lt; have ta := r.ra.lt
  have HB : Below z.heap.size z (z.alloc A) := (Below.refl _ z).alloc (Nat.le_refl _) A
  subst hA
  refine ⟨⟨e0, r.rv.below HB tv, r.rl.below HB tl, r.rn.below HB tn, r.rp.below HB tp, r.rf.below HB tf, r.ra.below HB ta, ?_, nn, mm, hk⟩, hb.trans (HB.mono hs), hs, by omega, by omega, by omega, by omega, by omega, by omega⟩
  · simp only [List.nodup_cons, List.mem_cons, not_or, List.not_mem_nil, not_false_eq_true, and_true, List.nodup_nil]
    omega
theorem new_less {W V W' : World} {B n m : Nat} {D : LkB} {v : Nat → Int} {F : LkF} (h : NewPool V W' B n m D v F) (hb : Below W.heap.size W V) : NewPool W W' B n m D v F := by
  have hs := hb.size
  obtain ⟨p, o, n1, n2, n3, n4, n5, n6, n7⟩ := h
  exact ⟨p, hb.trans (o.mono hs), by omega, by omega, by omega, by omega, by omega, by omega, by omega⟩
theorem new_below {W V W' : World} {B n m : Nat} {D : LkB} {v : Nat → Int} {F : LkF} (h : NewPool W V B n m D v F) (hb : BelowS D.S V.heap.size V W') : Below W.heap.size W W' := by
  have hs := h.old.size
  refine ⟨hb.os.trans h.old.os, hb.tape.trans h.old.tape, hb.output.trans h.old.output, Nat.le_trans hs hb.size, fun k hk => (hb.block k (by omega) ?_).trans (h.old.block k hk)⟩
  obtain ⟨n1, n2, n3, n4, n5, n6, n7⟩ := h.new
  rintro (e | e | e | e | e | e) <;> omega
theorem new_step {W V W' : World} {B n m : Nat} {D : LkB} {v v' : Nat → Int} {F F' : LkF} (h : NewPool W V B n m D v F) (p : PoolAt W' B n m D v' F') (hb : BelowS D.S V.heap.size V W') : NewPool W W' B n m D v' F' :=
  ⟨p, new_below h hb, h.new⟩
def boxP (z : World) (D : LkB) (n m : Nat) : World := z.alloc (.cells #[.pointer (some ⟨z.heap.size, 0, none⟩), .slice (some ⟨D.v, 0, none⟩) n D.cv, .slice (some ⟨D.l, 0, none⟩) n D.cl, .slice (some ⟨D.n, 0, none⟩) n D.cn, .slice (some ⟨D.p, 0, none⟩) n D.cp, .slice (some ⟨D.f, 0, none⟩) m D.cf, .slice (some ⟨D.a, 0, none⟩) m D.ca] 81)
theorem below_box (z : World) (D : LkB) (n m : Nat) {K : Nat} (hK : K < z.heap.size) {cs : Array Value} {t : TypeId} (h : z.heap[K]? = some (.cells cs t (0, 0))) {v : Value} (hv : cs[1]? = some v) : (boxP z D n m).cell? ⟨K, 1, none⟩ = some v :=
  row_cell (((Below.refl _ z).alloc (Nat.le_refl _) _).block K hK |>.trans h) hv
set_option maxHeartbeats 4000000 in
set_option maxRecDepth 100000 in
theorem build_any {W : World} {n m : Nat} {D : LkB} {v : Nat → Int} {F : LkF} (h : RowsAt W n m D v F) (nn : 1 ≤ n ∧ n ≤ 2000) (mm : 1 ≤ m ∧ m ≤ 64) :
    Calls Try.prog 40 #[stV n m D] W (BuildPost n m v F W) := by
  obtain ⟨A, hA⟩ : ∃ A : Obj, A = (.cells #[.slice (some ⟨D.v, 0, none⟩) n D.cv, .slice (some ⟨D.l, 0, none⟩) n D.cl, .slice (some ⟨D.n, 0, none⟩) n D.cn, .slice (some ⟨D.p, 0, none⟩) n D.cp, .slice (some ⟨D.f, 0, none⟩) m D.cf, .slice (some ⟨D.a, 0, none⟩) m D.ca] 39) := ⟨_, rfl⟩
  have hB0 : Below W.heap.size W (W.alloc A) := (Below.refl _ _).alloc (Nat.le_refl _) A
  have h1 : RowsAt (W.alloc A) n m D v F := ⟨h.rv.below hB0 h.rv.lt, h.rl.below hB0 h.rl.lt, h.rn.below hB0 h.rn.lt, h.rp.below hB0 h.rp.lt, h.rf.below hB0 h.rf.lt, h.ra.below hB0 h.ra.lt⟩
  have CC := Lib.hid (copy_any h1 nn mm)
  have HB0 := Lib.hid hB0
  have e0 : (W.alloc A).heap[W.heap.size]? = some A := heap_alloc_new W A
  have hsz : (W.alloc A).heap.size = W.heap.size + 1 := Array.size_push ..
  have HL := Lib.hid h.rl
  have HNN := Lib.hid nn; have HMM := Lib.hid mm
  have HE := Lib.hid e0; have HSZ := Lib.hid hsz
  clear h h1 nn mm hB0 e0 hsz
  unfold stV slc at CC ⊢
  subst hA
  go_enter Try.func40, Try.ntmps40
  go_wp2_with fail
  refine CC.out.mono ?_
  rintro e z ⟨D', rfl, P⟩
  have NP := Lib.hid (pool_new P HNN.out HMM.out)
  have hlt : W.heap.size < z.heap.size := by have := P.old.size; have := HSZ.out; omega
  have hKz := (P.old.block W.heap.size (by rw [HSZ.out]; omega)).trans HE.out
  have hBz : Below W.heap.size W z := HB0.out.trans (P.old.mono (by rw [HSZ.out]; omega))
  have hBw := below_box z D' n m hlt hKz (v := .slice (some ⟨D.l, 0, none⟩) n D.cl) rfl
  unfold boxP at hBw
  have HP := Lib.hid P
  have HBZ := Lib.hid hBz
  clear P hKz hBz CC HE HSZ
  unfold stV slc
  go_wp2_with fail
  have NQ := Lib.hid (new_less NP.out HB0.out)
  clear NP HP HBZ hBw hlt
  generalize z.alloc (.cells #[.pointer (some ⟨z.heap.size, 0, none⟩), .slice (some ⟨D'.v, 0, none⟩) n D'.cv, .slice (some ⟨D'.l, 0, none⟩) n D'.cl, .slice (some ⟨D'.n, 0, none⟩) n D'.cn, .slice (some ⟨D'.p, 0, none⟩) n D'.cp, .slice (some ⟨D'.f, 0, none⟩) m D'.cf, .slice (some ⟨D'.a, 0, none⟩) m D'.ca] 81) = W2 at NQ ⊢
  generalize z.heap.size = B at NQ ⊢
  go_loopg [17] n (fun n1 i wr => ∃ k : Nat, i = .int .i64 (k : Int) ∧ k + n1 = n ∧ NewPool W wr B n m D' (freeV v F k) F)
  case atStart => exact ⟨0, by go_num, by omega, by rw [freeV_zero]; exact NQ.out⟩
  case round =>
    obtain ⟨k, rfl, hkn, hP⟩ := hrel
    by_cases hlt : k < n
    · obtain ⟨n', rfl⟩ : ∃ n', gk = n' + 1 := ⟨gk - 1, by omega⟩
      have hrow := HL.out.below hP.old HL.out.lt
      obtain ⟨y0, _⟩ := hrow.get hlt
      have i1 : (k : Int) < n := by omega
      have k0 : (0 : Int) ≤ k := by omega
      have w1 : IntKind.i64.wrap ((k : Int) + 1) = (k : Int) + 1 := IntWalk.i64_in _ (by have := HNN.out; omega)
      by_cases hx : F.list k = -1
      · have CW := Lib.hid (wipe_any hP.pool k hlt)
        rw [← freeV_wipe hx] at CW
        have HP := Lib.hid hP
        rw [hx] at y0
        clear hx hrow hP
        go_wp2_with fail
        refine CW.out.mono ?_
        rintro e w3 ⟨rfl, P, Bw⟩
        have HP3 := Lib.hid (new_step HP.out P Bw)
        clear P Bw
        go_wp2_with fail
        go_roundg n'
        case measure => omega
        case rel => exact ⟨k + 1, by go_num, by omega, HP3.out⟩
      · have t1 : (F.list k == -1) = false := beq_eq_false_iff_ne.2 hx
        rw [← freeV_keep hx] at hP
        have HP := Lib.hid hP
        generalize F.list k = y at y0 t1
        clear hx hrow hP
        go_wp2_with fail
        go_roundg n'
        case measure => omega
        case rel => exact ⟨k + 1, by go_num, by omega, HP.out⟩
    · obtain rfl : k = n := by omega
      obtain rfl : gk = 0 := by omega
      have HP := Lib.hid hP
      clear hP
      go_wp2_with fail
      go_ret
      exact ⟨B, D', rfl, HP.out⟩
end Go.Proofs.Ytnbniflljbbpbaa
