/- links: clone. -/
import Derived.Test.YtmelcohfjonjfaaLkSave
import Derived.Deep.RegionHeld3
namespace Go.Proofs.Ytmelcohfjonjfaa
open Go.RowKit

/-- The six cells of the state that is copied. -/
def CopyP (n m : Nat) (D : LkB) (K : Nat) (W : World) : Prop := W.cell? ⟨K, 0, none⟩ = some (.slice (some ⟨D.v, 0, none⟩) n D.cv) ∧ W.cell? ⟨K, 1, none⟩ = some (.slice (some ⟨D.l, 0, none⟩) n D.cl) ∧ W.cell? ⟨K, 2, none⟩ = some (.slice (some ⟨D.n, 0, none⟩) n D.cn) ∧ W.cell? ⟨K, 3, none⟩ = some (.slice (some ⟨D.p, 0, none⟩) n D.cp) ∧ W.cell? ⟨K, 4, none⟩ = some (.slice (some ⟨D.f, 0, none⟩) m D.cf) ∧ W.cell? ⟨K, 5, none⟩ = some (.slice (some ⟨D.a, 0, none⟩) m D.ca)
theorem keepP {n m : Nat} {D : LkB} {K : Nat} {W W' : World} (h : CopyP n m D K W) (hb : Below W.heap.size W W') : CopyP n m D K W' := by
  unfold CopyP at h ⊢
  obtain ⟨a0, a1, a2, a3, a4, a5⟩ := h
  have h0 : K < W.heap.size := World.block_lt_of_cell? _ _ a0
  have e : ∀ j, W'.cell? ⟨K, j, none⟩ = W.cell? ⟨K, j, none⟩ := fun j => hb.cell h0
  simp only [e]
  exact ⟨a0, a1, a2, a3, a4, a5⟩
theorem setP {n m : Nat} {D : LkB} {K : Nat} (W : World) (j : Nat) (u : Value) (h : CopyP n m D K W) : CopyP n m D K (W.setCell ⟨K + 1, j, none⟩ u) := by
  have hk : (W.setCell ⟨K + 1, j, none⟩ u).heap[K]? = W.heap[K]? := Below.heap_setCell _ _ _ _ (by simp)
  have e : ∀ i, (W.setCell ⟨K + 1, j, none⟩ u).cell? ⟨K, i, none⟩ = W.cell? ⟨K, i, none⟩ := fun i => by unfold World.cell?; simp only [hk]
  unfold CopyP at h ⊢
  simp only [e]
  exact h
/-- The result's six cells, as they are before the store. -/
def CopyR (K : Nat) (W : World) : Prop := W.cell? ⟨K, 0, none⟩ = some (.slice none 0 0) ∧ W.frozen? ⟨K, 0, none⟩ = false ∧ W.cell? ⟨K, 1, none⟩ = some (.slice none 0 0) ∧ W.frozen? ⟨K, 1, none⟩ = false ∧ W.cell? ⟨K, 2, none⟩ = some (.slice none 0 0) ∧ W.frozen? ⟨K, 2, none⟩ = false ∧ W.cell? ⟨K, 3, none⟩ = some (.slice none 0 0) ∧ W.frozen? ⟨K, 3, none⟩ = false ∧ W.cell? ⟨K, 4, none⟩ = some (.slice none 0 0) ∧ W.frozen? ⟨K, 4, none⟩ = false ∧ W.cell? ⟨K, 5, none⟩ = some (.slice none 0 0) ∧ W.frozen? ⟨K, 5, none⟩ = false
theorem keepR {K : Nat} {W W' : World} (h : CopyR K W) (hb : Below W.heap.size W W') : CopyR K W' := by
  unfold CopyR at h ⊢
  obtain ⟨b0, c0, b1, c1, b2, c2, b3, c3, b4, c4, b5, c5⟩ := h
  have h1 : K < W.heap.size := World.block_lt_of_cell? _ _ b0
  have e1 : ∀ j, W'.cell? ⟨K, j, none⟩ = W.cell? ⟨K, j, none⟩ := fun j => hb.cell h1
  have e2 : ∀ j, W'.frozen? ⟨K, j, none⟩ = W.frozen? ⟨K, j, none⟩ := fun j => by unfold World.frozen?; rw [hb.block _ h1]
  simp only [e1, e2]
  exact ⟨b0, c0, b1, c1, b2, c2, b3, c3, b4, c4, b5, c5⟩
theorem copyPR {n m : Nat} {D : LkB} {K : Nat} {W : World} (h : CopyS n m D K W) : CopyP n m D K W ∧ CopyR (K + 1) W := by
  unfold CopyS at h
  obtain ⟨a0, a1, a2, a3, a4, a5, r⟩ := h
  exact ⟨⟨a0, a1, a2, a3, a4, a5⟩, r⟩
theorem box6 {W : World} {B : Nat} {t : TypeId} (a b c d e f : Value) {x0 x1 x2 x3 x4 x5 : Value} (h : W.heap[B]? = some (.cells #[x0, x1, x2, x3, x4, x5] t (0, 0))) :
    ((((((W.setCell ⟨B, 0, none⟩ a).setCell ⟨B, 1, none⟩ b).setCell ⟨B, 2, none⟩ c).setCell ⟨B, 3, none⟩ d).setCell ⟨B, 4, none⟩ e).setCell ⟨B, 5, none⟩ f).heap[B]? = some (.cells #[a, b, c, d, e, f] t (0, 0)) := by
  have := heap_set (i := 5) f (heap_set (i := 4) e (heap_set (i := 3) d (heap_set (i := 2) c (heap_set (i := 1) b (heap_set (i := 0) a h)))))
  simpa using this
theorem copy_e0 (W : World) (A : Obj) (B : Obj) : ((W.alloc A).alloc B).drew.heap[W.heap.size + 1]? = some B := heap_alloc2_new W A B
theorem info_state : (Try.prog.info? 39).map (·.size) = some 6 := by kernel_rfl
theorem copy_fin {W W0 zv zl zn zp zf za z : World} {n m : Nat} {v : Nat → Int} {F : LkF} {gv gl gn gp gf ga qv ql qn qp qf qa : Nat} (h0 : W.heap.size + 1 < W0.heap.size)
    (B : Below W.heap.size W za) (Yv : Below W0.heap.size W0 zv) (Yl : Below zv.heap.size zv zl) (Yn : Below zl.heap.size zl zn) (Yp : Below zn.heap.size zn zp) (Yf : Below zp.heap.size zp zf) (Ya : Below zf.heap.size zf za)
    (Gv : W0.heap.size ≤ gv) (Gl : zv.heap.size ≤ gl) (Gn : zl.heap.size ≤ gn) (Gp : zn.heap.size ≤ gp) (Gf : zp.heap.size ≤ gf) (Ga : zf.heap.size ≤ ga)
    (Rv : RowF zv gv n v) (Rl : RowF zl gl n F.list) (Rn : RowF zn gn n F.next) (Rp : RowF zp gp n F.prev) (Rf : RowF zf gf m F.first) (Ra : RowF za ga m F.last)
    (hX : n ≤ qv) (hz : ∀ k, k ≠ W.heap.size + 1 → z.heap[k]? = za.heap[k]?) (hB : Below W.heap.size za z) : NewRows W z n m ⟨gv, gl, gn, gp, gf, ga, qv, ql, qn, qp, qf, qa⟩ v F := by
  have tv := Rv.lt; have tl := Rl.lt; have tn := Rn.lt; have tp := Rp.lt; have tf := Rf.lt; have ta := Ra.lt
  have s1 := Yv.size; have s2 := Yl.size; have s3 := Yn.size; have s4 := Yp.size; have s5 := Yf.size; have s6 := Ya.size
  have R6 : RowF za gv n v := ((((Rv.below Yl tv).below Yn (by omega)).below Yp (by omega)).below Yf (by omega)).below Ya (by omega)
  have R5 : RowF za gl n F.list := (((Rl.below Yn tl).below Yp (by omega)).below Yf (by omega)).below Ya (by omega)
  have R4 : RowF za gn n F.next := ((Rn.below Yp tn).below Yf (by omega)).below Ya (by omega)
  have R3 : RowF za gp n F.prev := (Rp.below Yf tp).below Ya (by omega)
  have R2 : RowF za gf m F.first := Rf.below Ya tf
  refine ⟨⟨R6.block (hz _ (by omega)), R5.block (hz _ (by omega)), R4.block (hz _ (by omega)), R3.block (hz _ (by omega)), R2.block (hz _ (by omega)), Ra.block (hz _ (by omega))⟩, B.trans hB, ?_, ?_, hX⟩
  · show W.heap.size ≤ gv; omega
  · show gv < gl ∧ gl < gn ∧ gn < gp ∧ gp < gf ∧ gf < ga; omega
set_option maxHeartbeats 4000000 in
set_option maxRecDepth 100000 in
theorem copy_any {W : World} {n m : Nat} {D : LkB} {v : Nat → Int} {F : LkF} (h : RowsAt W n m D v F) (nn : 1 ≤ n ∧ n ≤ 2000) (mm : 1 ≤ m ∧ m ≤ 64) :
    Calls Try.prog 46 #[stV n m D] W (CopyPost n m v F W) := by
  have Cv := Lib.hid (fun W' (hb : Below W.heap.size W W') => clone_any (cap := D.cv) (h.rv.below hb h.rv.lt) nn.1 nn.2)
  have Cl := Lib.hid (fun W' (hb : Below W.heap.size W W') => clone_any (cap := D.cl) (h.rl.below hb h.rl.lt) nn.1 nn.2)
  have Cn := Lib.hid (fun W' (hb : Below W.heap.size W W') => clone_any (cap := D.cn) (h.rn.below hb h.rn.lt) nn.1 nn.2)
  have Cp := Lib.hid (fun W' (hb : Below W.heap.size W W') => clone_any (cap := D.cp) (h.rp.below hb h.rp.lt) nn.1 nn.2)
  have Cf := Lib.hid (fun W' (hb : Below W.heap.size W W') => clone_any (cap := D.cf) (h.rf.below hb h.rf.lt) mm.1 (Nat.le_trans mm.2 (by decide)))
  have Ca := Lib.hid (fun W' (hb : Below W.heap.size W W') => clone_any (cap := D.ca) (h.ra.below hb h.ra.lt) mm.1 (Nat.le_trans mm.2 (by decide)))
  clear h nn mm
  have KEEP : Hid (∀ {A A' : World}, CopyP n m D W.heap.size A → Below A.heap.size A A' → CopyP n m D W.heap.size A') := Lib.hid (fun h hb => keepP h hb)
  have SET : Hid (∀ (A : World) (j : Nat) (u : Value), CopyP n m D W.heap.size A → CopyP n m D W.heap.size (A.setCell ⟨W.heap.size + 1, j, none⟩ u)) := Lib.hid (fun A j u h => setP A j u h)
  unfold stV slc
  go_enter Try.func46, Try.ntmps46
  go_wp2_with fail
  obtain ⟨s0, r0⟩ := copyPR (copy_s0 n m D W)
  have HB := Lib.hid (copy_b0 n m D W)
  have HW := Lib.hid (Below.refl ((W.alloc (.cells #[.slice (some ⟨D.v, 0, none⟩) n D.cv, .slice (some ⟨D.l, 0, none⟩) n D.cl, .slice (some ⟨D.n, 0, none⟩) n D.cn, .slice (some ⟨D.p, 0, none⟩) n D.cp, .slice (some ⟨D.f, 0, none⟩) m D.cf, .slice (some ⟨D.a, 0, none⟩) m D.ca] 39)).alloc (.cells #[.slice none 0 0, .slice none 0 0, .slice none 0 0, .slice none 0 0, .slice none 0 0, .slice none 0 0] 39)).drew.heap.size ((W.alloc (.cells #[.slice (some ⟨D.v, 0, none⟩) n D.cv, .slice (some ⟨D.l, 0, none⟩) n D.cl, .slice (some ⟨D.n, 0, none⟩) n D.cn, .slice (some ⟨D.p, 0, none⟩) n D.cp, .slice (some ⟨D.f, 0, none⟩) m D.cf, .slice (some ⟨D.a, 0, none⟩) m D.ca] 39)).alloc (.cells #[.slice none 0 0, .slice none 0 0, .slice none 0 0, .slice none 0 0, .slice none 0 0, .slice none 0 0] 39)).drew)
  have hE := Lib.hid (copy_e0 W (.cells #[.slice (some ⟨D.v, 0, none⟩) n D.cv, .slice (some ⟨D.l, 0, none⟩) n D.cl, .slice (some ⟨D.n, 0, none⟩) n D.cn, .slice (some ⟨D.p, 0, none⟩) n D.cp, .slice (some ⟨D.f, 0, none⟩) m D.cf, .slice (some ⟨D.a, 0, none⟩) m D.ca] 39) (.cells #[.slice none 0 0, .slice none 0 0, .slice none 0 0, .slice none 0 0, .slice none 0 0, .slice none 0 0] 39))
  generalize eW : (W.alloc (.cells #[.slice (some ⟨D.v, 0, none⟩) n D.cv, .slice (some ⟨D.l, 0, none⟩) n D.cl, .slice (some ⟨D.n, 0, none⟩) n D.cn, .slice (some ⟨D.p, 0, none⟩) n D.cp, .slice (some ⟨D.f, 0, none⟩) m D.cf, .slice (some ⟨D.a, 0, none⟩) m D.ca] 39)).alloc (.cells #[.slice none 0 0, .slice none 0 0, .slice none 0 0, .slice none 0 0, .slice none 0 0, .slice none 0 0] 39) = W0 at *
  clear eW
  have R0 := Lib.hid r0
  clear r0
  unfold CopyP at s0 KEEP SET
  go_region_held3 (fun Wx => Wx.cell? ⟨W.heap.size, 0, none⟩ = some (.slice (some ⟨D.v, 0, none⟩) n D.cv) ∧ Wx.cell? ⟨W.heap.size, 1, none⟩ = some (.slice (some ⟨D.l, 0, none⟩) n D.cl) ∧ Wx.cell? ⟨W.heap.size, 2, none⟩ = some (.slice (some ⟨D.n, 0, none⟩) n D.cn) ∧ Wx.cell? ⟨W.heap.size, 3, none⟩ = some (.slice (some ⟨D.p, 0, none⟩) n D.cp) ∧ Wx.cell? ⟨W.heap.size, 4, none⟩ = some (.slice (some ⟨D.f, 0, none⟩) m D.cf) ∧ Wx.cell? ⟨W.heap.size, 5, none⟩ = some (.slice (some ⟨D.a, 0, none⟩) m D.ca)) (first | with_reducible exact s0 | with_reducible exact KEEP.out (by assumption) (by assumption) | with_reducible exact SET.out _ _ _ (SET.out _ _ _ (SET.out _ _ _ (SET.out _ _ _ (SET.out _ _ _ (SET.out _ _ _ (by assumption))))))) (first
    | (go_at_call 70; refine (Cv.out _ HB.out).mono ?_; rintro e zv ⟨gv, qv, rfl, hcv, hgv, hrv, hb⟩
       have HB := Lib.hid (HB.out.trans (hb.mono HB.out.size)); have HW := Lib.hid (HW.out.trans (hb.mono HW.out.size)); have HXv := Lib.hid hcv; have HGv := Lib.hid hgv; have HRv := Lib.hid hrv; have HYv := Lib.hid hb
       clear Cv hcv hgv hrv)
    | (go_at_call 70; refine (Cl.out _ HB.out).mono ?_; rintro e zl ⟨gl, ql, rfl, hcl, hgl, hrl, hb⟩
       have HB := Lib.hid (HB.out.trans (hb.mono HB.out.size)); have HW := Lib.hid (HW.out.trans (hb.mono HW.out.size)); have HXl := Lib.hid hcl; have HGl := Lib.hid hgl; have HRl := Lib.hid hrl; have HYl := Lib.hid hb
       clear Cl hcl hgl hrl)
    | (go_at_call 70; refine (Cn.out _ HB.out).mono ?_; rintro e zn ⟨gn, qn, rfl, hcn, hgn, hrn, hb⟩
       have HB := Lib.hid (HB.out.trans (hb.mono HB.out.size)); have HW := Lib.hid (HW.out.trans (hb.mono HW.out.size)); have HXn := Lib.hid hcn; have HGn := Lib.hid hgn; have HRn := Lib.hid hrn; have HYn := Lib.hid hb
       clear Cn hcn hgn hrn)
    | (go_at_call 70; refine (Cp.out _ HB.out).mono ?_; rintro e zp ⟨gp, qp, rfl, hcp, hgp, hrp, hb⟩
       have HB := Lib.hid (HB.out.trans (hb.mono HB.out.size)); have HW := Lib.hid (HW.out.trans (hb.mono HW.out.size)); have HXp := Lib.hid hcp; have HGp := Lib.hid hgp; have HRp := Lib.hid hrp; have HYp := Lib.hid hb
       clear Cp hcp hgp hrp)
    | (go_at_call 70; refine (Cf.out _ HB.out).mono ?_; rintro e zf ⟨gf, qf, rfl, hcf, hgf, hrf, hb⟩
       have HB := Lib.hid (HB.out.trans (hb.mono HB.out.size)); have HW := Lib.hid (HW.out.trans (hb.mono HW.out.size)); have HXf := Lib.hid hcf; have HGf := Lib.hid hgf; have HRf := Lib.hid hrf; have HYf := Lib.hid hb
       clear Cf hcf hgf hrf)
    | (go_at_call 70; refine (Ca.out _ HB.out).mono ?_; rintro e za ⟨ga, qa, rfl, hca, hga, hra, hb⟩
       have HB := Lib.hid (HB.out.trans (hb.mono HB.out.size)); have HW := Lib.hid (HW.out.trans (hb.mono HW.out.size)); have HXa := Lib.hid hca; have HGa := Lib.hid hga; have HRa := Lib.hid hra; have HYa := Lib.hid hb
       clear Ca hca hga hra; obtain ⟨b0, c0, b1, c1, b2, c2, b3, c3, b4, c4, b5, c5⟩ := keepR R0.out HW.out))
  go_wp2_with fail
  have h0 : W.heap.size + 1 < W0.drew.heap.size := World.block_lt_of_cell? _ _ R0.out.1
  have hB := Lib.hid ((((((((Below.refl W.heap.size za).setCell (p := ⟨W.heap.size + 1, 0, none⟩) (by simp) (.slice (some ⟨gv, 0, none⟩) n qv)).setCell (p := ⟨W.heap.size + 1, 1, none⟩) (by simp) (.slice (some ⟨gl, 0, none⟩) n ql)).setCell (p := ⟨W.heap.size + 1, 2, none⟩) (by simp) (.slice (some ⟨gn, 0, none⟩) n qn)).setCell (p := ⟨W.heap.size + 1, 3, none⟩) (by simp) (.slice (some ⟨gp, 0, none⟩) n qp)).setCell (p := ⟨W.heap.size + 1, 4, none⟩) (by simp) (.slice (some ⟨gf, 0, none⟩) m qf)).setCell (p := ⟨W.heap.size + 1, 5, none⟩) (by simp) (.slice (some ⟨ga, 0, none⟩) m qa)))
  have hz := Lib.hid (fun k (hk : k ≠ W.heap.size + 1) => (Below.heap_setCell ((((((za.setCell ⟨W.heap.size + 1, 0, none⟩ (.slice (some ⟨gv, 0, none⟩) n qv)).setCell ⟨W.heap.size + 1, 1, none⟩ (.slice (some ⟨gl, 0, none⟩) n ql)).setCell ⟨W.heap.size + 1, 2, none⟩ (.slice (some ⟨gn, 0, none⟩) n qn)).setCell ⟨W.heap.size + 1, 3, none⟩ (.slice (some ⟨gp, 0, none⟩) n qp)).setCell ⟨W.heap.size + 1, 4, none⟩ (.slice (some ⟨gf, 0, none⟩) m qf))) ⟨W.heap.size + 1, 5, none⟩ (.slice (some ⟨ga, 0, none⟩) m qa) k hk).trans ((Below.heap_setCell _ ⟨W.heap.size + 1, 4, none⟩ _ k hk).trans ((Below.heap_setCell _ ⟨W.heap.size + 1, 3, none⟩ _ k hk).trans ((Below.heap_setCell _ ⟨W.heap.size + 1, 2, none⟩ _ k hk).trans ((Below.heap_setCell _ ⟨W.heap.size + 1, 1, none⟩ _ k hk).trans (Below.heap_setCell _ ⟨W.heap.size + 1, 0, none⟩ _ k hk))))))
  clear KEEP SET s0 hb
  have hbox := box6 (.slice (some ⟨gv, 0, none⟩) n qv) (.slice (some ⟨gl, 0, none⟩) n ql) (.slice (some ⟨gn, 0, none⟩) n qn) (.slice (some ⟨gp, 0, none⟩) n qp) (.slice (some ⟨gf, 0, none⟩) m qf) (.slice (some ⟨ga, 0, none⟩) m qa) ((HW.out.block _ h0).trans hE.out)
  try simp only [Exit.inBlock, Exit.then]
  refine bodyPost_ret (results_cell_row rfl _ _ (W.heap.size + 1) _ _ _ _ rfl hbox Try.underlying39 rfl info_state) rfl ?_
  exact ⟨⟨gv, gl, gn, gp, gf, ga, qv, ql, qn, qp, qf, qa⟩, rfl, copy_fin h0 HB.out HYv.out HYl.out HYn.out HYp.out HYf.out HYa.out HGv.out HGl.out HGn.out HGp.out HGf.out HGa.out HRv.out HRl.out HRn.out HRp.out HRf.out HRa.out HXv.out hz.out hB.out⟩
end Go.Proofs.Ytmelcohfjonjfaa
