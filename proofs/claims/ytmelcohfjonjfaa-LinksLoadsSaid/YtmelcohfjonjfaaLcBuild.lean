/- links: slices.Clone of numbers that lie anywhere. links: clone of a state that lies anywhere. links: build of a state that lies anywhere. -/
import Derived.Test.YtmelcohfjonjfaaLcSlot
import Derived.Test.YtmelcohfjonjfaaLkCopy
import Derived.Test.YtmelcohfjonjfaaLkBuild
namespace Go.Proofs.Ytmelcohfjonjfaa
open Go.RowKit

set_option maxHeartbeats 4000000 in
set_option maxRecDepth 100000 in
theorem clone_o {w : World} {p : Option Addr} {n cap : Nat} {f : Nat → Int} (h : SlO w p n f) (hn : 1 ≤ n) (hl : n ≤ 2000) :
    Calls Try.prog 70 #[.slice p n cap] w (ClonePost n f w) := by
  obtain ⟨g, off, rfl, hlt, _⟩ := h 0 (by omega)
  obtain ⟨i0, hi, hz0, hz1, hz2⟩ := info_partsB info_int
  have HIN := Lib.hid hi; have HZ0 := Lib.hid hz0; have HZ1 := Lib.hid hz1; have HZ2 := Lib.hid hz2
  have q22 : ∀ (w : World) (a : Option Addr) (n c n' c' : Nat), (binOp .eql 29 (.slice a n c) (.slice none n' c')).run Try.prog w = .ok (.bool a.isNone) w := fun w a n c n' c' => Lib.run_eql_slice_nil w _ _ a n c n' c' Try.underlying29
  have hcells : ∀ W, Below w.heap.size w W → ∀ j u, (IntC n f)[j]? = some u → W.cell? ((⟨g, off, none⟩ : Addr).add j) = some u := by
    intro W hW j u hj
    have hjl : j < n := by rw [← IntC_len n f]; exact (List.getElem?_eq_some_iff.1 hj).1
    rw [IntC_get hjl] at hj
    rw [WideShapes.add_plain, ← hj]
    obtain ⟨g2, off2, e2, _, hx⟩ := h j hjl
    cases e2
    exact (hW.cell hlt).trans hx
  have h1c : ∀ u ∈ IntC n f, u.oneCell' = true := by
    intro u hu
    obtain ⟨x, _, hx⟩ := List.mem_map.1 hu
    rw [← hx]; rfl
  have HCE := Lib.hid hcells; have H1C := Lib.hid h1c; have HN := Lib.hid hn; have HL := Lib.hid hl
  clear hi hz0 hz1 hz2 h hcells h1c hn hl hlt
  go_enter Try.func70, Try.ntmps70
  go_wp2_with (at_builtin; refine wpList_append_own _ rfl _ _ 29 rfl w.heap.size 3 i0 (.int .i64 0) 1 8 Try.underlying29 HIN.out HZ0.out HZ1.out HZ2.out rfl (by decide) _ _ _ rfl (World.ownsRow_made w #[] 0 (Nat.le_refl _) (Nat.zero_le _) rfl) ⟨g, off, none⟩ n cap (IntC n f) rfl (by rw [IntC_len, Nat.mul_one]) (HCE.out _ ((Below.refl _ _).alloc (Nat.le_refl _) _)) H1C.out (by have := HL.out; unfold maxLen; omega) (by have := HL.out; omega) (by simp) ?_; intro v4 w4 hown4 hgrow4 hnil4)
  go_ret
  have hown : w4.ownsRow w.heap.size 3 1 v4 n (IntC n f) := by simpa using hown4
  obtain ⟨g', c', rfl, h1, h2, h3⟩ := own_rowF HN.out hown
  exact ⟨g', c', rfl, h1, h2, h3, ((Below.refl _ w).alloc (Nat.le_refl _) _).grown hgrow4 (by simp) (by intro k hk; cases hk; exact Nat.le_refl _)⟩
end Go.Proofs.Ytmelcohfjonjfaa
namespace Go.Proofs.Ytmelcohfjonjfaa
open Go.RowKit

/-- Where six slices lie, and their capacities. -/
structure LoB where
  v : Option Addr
  l : Option Addr
  n : Option Addr
  p : Option Addr
  f : Option Addr
  a : Option Addr
  cv : Nat
  cl : Nat
  cn : Nat
  cp : Nat
  cf : Nat
  ca : Nat
structure RowsO (W : World) (n m : Nat) (D : LoB) (v : Nat → Int) (F : LkF) : Prop where
  rv : SlO W D.v n v
  rl : SlO W D.l n F.list
  rn : SlO W D.n n F.next
  rp : SlO W D.p n F.prev
  rf : SlO W D.f m F.first
  ra : SlO W D.a m F.last
theorem RowsO.below {W W' : World} {n m : Nat} {D : LoB} {v : Nat → Int} {F : LkF} (h : RowsO W n m D v F) (hb : Below W.heap.size W W') : RowsO W' n m D v F :=
  ⟨h.rv.below hb, h.rl.below hb, h.rn.below hb, h.rp.below hb, h.rf.below hb, h.ra.below hb⟩
def stO (n m : Nat) (D : LoB) : Value := .agg #[.slice D.v n D.cv, .slice D.l n D.cl, .slice D.n n D.cn, .slice D.p n D.cp, .slice D.f m D.cf, .slice D.a m D.ca]
def CopySo (n m : Nat) (D : LoB) (K : Nat) (W : World) : Prop := W.cell? ⟨K, 0, none⟩ = some (.slice D.v n D.cv) ∧ W.cell? ⟨K, 1, none⟩ = some (.slice D.l n D.cl) ∧ W.cell? ⟨K, 2, none⟩ = some (.slice D.n n D.cn) ∧ W.cell? ⟨K, 3, none⟩ = some (.slice D.p n D.cp) ∧ W.cell? ⟨K, 4, none⟩ = some (.slice D.f m D.cf) ∧ W.cell? ⟨K, 5, none⟩ = some (.slice D.a m D.ca) ∧ W.cell? ⟨K + 1, 0, none⟩ = some (.slice none 0 0) ∧ W.frozen? ⟨K + 1, 0, none⟩ = false ∧ W.cell? ⟨K + 1, 1, none⟩ = some (.slice none 0 0) ∧ W.frozen? ⟨K + 1, 1, none⟩ = false ∧ W.cell? ⟨K + 1, 2, none⟩ = some (.slice none 0 0) ∧ W.frozen? ⟨K + 1, 2, none⟩ = false ∧ W.cell? ⟨K + 1, 3, none⟩ = some (.slice none 0 0) ∧ W.frozen? ⟨K + 1, 3, none⟩ = false ∧ W.cell? ⟨K + 1, 4, none⟩ = some (.slice none 0 0) ∧ W.frozen? ⟨K + 1, 4, none⟩ = false ∧ W.cell? ⟨K + 1, 5, none⟩ = some (.slice none 0 0) ∧ W.frozen? ⟨K + 1, 5, none⟩ = false
theorem keepCo {n m : Nat} {D : LoB} {K : Nat} {W W' : World} (h : CopySo n m D K W) (hb : Below W.heap.size W W') : CopySo n m D K W' := by
  unfold CopySo at h ⊢
  obtain ⟨a0, a1, a2, a3, a4, a5, b0, c0, b1, c1, b2, c2, b3, c3, b4, c4, b5, c5⟩ := h
  have h0 : K < W.heap.size := World.block_lt_of_cell? _ _ a0
  have h1 : K + 1 < W.heap.size := World.block_lt_of_cell? _ _ b0
  have e : ∀ j, W'.cell? ⟨K, j, none⟩ = W.cell? ⟨K, j, none⟩ := fun j => hb.cell h0
  have e1 : ∀ j, W'.cell? ⟨K + 1, j, none⟩ = W.cell? ⟨K + 1, j, none⟩ := fun j => hb.cell h1
  have e2 : ∀ j, W'.frozen? ⟨K + 1, j, none⟩ = W.frozen? ⟨K + 1, j, none⟩ := fun j => by unfold World.frozen?; rw [hb.block _ h1]
  simp only [e, e1, e2]
  exact ⟨a0, a1, a2, a3, a4, a5, b0, c0, b1, c1, b2, c2, b3, c3, b4, c4, b5, c5⟩
theorem copy_s0o (n m : Nat) (D : LoB) (W : World) : CopySo n m D W.heap.size ((W.alloc (.cells #[.slice D.v n D.cv, .slice D.l n D.cl, .slice D.n n D.cn, .slice D.p n D.cp, .slice D.f m D.cf, .slice D.a m D.ca] 39)).alloc (.cells #[.slice none 0 0, .slice none 0 0, .slice none 0 0, .slice none 0 0, .slice none 0 0, .slice none 0 0] 39)).drew := by
  obtain ⟨A, hA⟩ : ∃ A : Obj, A = (.cells #[.slice D.v n D.cv, .slice D.l n D.cl, .slice D.n n D.cn, .slice D.p n D.cp, .slice D.f m D.cf, .slice D.a m D.ca] 39) := ⟨_, rfl⟩
  obtain ⟨B, hB⟩ : ∃ B : Obj, B = (.cells #[.slice none 0 0, .slice none 0 0, .slice none 0 0, .slice none 0 0, .slice none 0 0, .slice none 0 0] 39) := ⟨_, rfl⟩
  rw [← hA, ← hB]
  have z : (W.alloc A).heap.size = W.heap.size + 1 := Array.size_push ..
  have e0 : ((W.alloc A).alloc B).drew.heap[W.heap.size]? = some A :=
    (((Below.refl (W.heap.size + 1) (W.alloc A)).alloc (by omega) B).block W.heap.size (by omega)).trans (heap_alloc_new W A)
  have e1 : ((W.alloc A).alloc B).drew.heap[W.heap.size + 1]? = some B := by
    have := heap_alloc_new (W.alloc A) B
    rw [z] at this
    exact this
  subst hA hB
  exact ⟨row_cell e0 rfl, row_cell e0 rfl, row_cell e0 rfl, row_cell e0 rfl, row_cell e0 rfl, row_cell e0 rfl, row_cell e1 rfl, row_free e1, row_cell e1 rfl, row_free e1, row_cell e1 rfl, row_free e1, row_cell e1 rfl, row_free e1, row_cell e1 rfl, row_free e1, row_cell e1 rfl, row_free e1⟩
theorem copy_b0o (n m : Nat) (D : LoB) (W : World) : Below W.heap.size W ((W.alloc (.cells #[.slice D.v n D.cv, .slice D.l n D.cl, .slice D.n n D.cn, .slice D.p n D.cp, .slice D.f m D.cf, .slice D.a m D.ca] 39)).alloc (.cells #[.slice none 0 0, .slice none 0 0, .slice none 0 0, .slice none 0 0, .slice none 0 0, .slice none 0 0] 39)).drew := by
  obtain ⟨A, hA⟩ : ∃ A : Obj, A = (.cells #[.slice D.v n D.cv, .slice D.l n D.cl, .slice D.n n D.cn, .slice D.p n D.cp, .slice D.f m D.cf, .slice D.a m D.ca] 39) := ⟨_, rfl⟩
  obtain ⟨B, hB⟩ : ∃ B : Obj, B = (.cells #[.slice none 0 0, .slice none 0 0, .slice none 0 0, .slice none 0 0, .slice none 0 0, .slice none 0 0] 39) := ⟨_, rfl⟩
  rw [← hA, ← hB]
  have z : (W.alloc A).heap.size = W.heap.size + 1 := Array.size_push ..
  exact (((Below.refl _ _).alloc (Nat.le_refl _) _).alloc (by omega) _).drew
/-- The six cells of the state that is copied. -/
def CopyPo (n m : Nat) (D : LoB) (K : Nat) (W : World) : Prop := W.cell? ⟨K, 0, none⟩ = some (.slice D.v n D.cv) ∧ W.cell? ⟨K, 1, none⟩ = some (.slice D.l n D.cl) ∧ W.cell? ⟨K, 2, none⟩ = some (.slice D.n n D.cn) ∧ W.cell? ⟨K, 3, none⟩ = some (.slice D.p n D.cp) ∧ W.cell? ⟨K, 4, none⟩ = some (.slice D.f m D.cf) ∧ W.cell? ⟨K, 5, none⟩ = some (.slice D.a m D.ca)
theorem keepPo {n m : Nat} {D : LoB} {K : Nat} {W W' : World} (h : CopyPo n m D K W) (hb : Below W.heap.size W W') : CopyPo n m D K W' := by
  unfold CopyPo at h ⊢
  obtain ⟨a0, a1, a2, a3, a4, a5⟩ := h
  have h0 : K < W.heap.size := World.block_lt_of_cell? _ _ a0
  have e : ∀ j, W'.cell? ⟨K, j, none⟩ = W.cell? ⟨K, j, none⟩ := fun j => hb.cell h0
  simp only [e]
  exact ⟨a0, a1, a2, a3, a4, a5⟩
theorem setPo {n m : Nat} {D : LoB} {K : Nat} (W : World) (j : Nat) (u : Value) (h : CopyPo n m D K W) : CopyPo n m D K (W.setCell ⟨K + 1, j, none⟩ u) := by
  have hk : (W.setCell ⟨K + 1, j, none⟩ u).heap[K]? = W.heap[K]? := Below.heap_setCell _ _ _ _ (by simp)
  have e : ∀ i, (W.setCell ⟨K + 1, j, none⟩ u).cell? ⟨K, i, none⟩ = W.cell? ⟨K, i, none⟩ := fun i => by unfold World.cell?; simp only [hk]
  unfold CopyPo at h ⊢
  simp only [e]
  exact h
theorem copyPRo {n m : Nat} {D : LoB} {K : Nat} {W : World} (h : CopySo n m D K W) : CopyPo n m D K W ∧ CopyR (K + 1) W := by
  unfold CopySo at h
  obtain ⟨a0, a1, a2, a3, a4, a5, r⟩ := h
  exact ⟨⟨a0, a1, a2, a3, a4, a5⟩, r⟩
set_option maxHeartbeats 4000000 in
set_option maxRecDepth 100000 in
theorem copy_o {W : World} {n m : Nat} {D : LoB} {v : Nat → Int} {F : LkF} (h : RowsO W n m D v F) (nn : 1 ≤ n ∧ n ≤ 2000) (mm : 1 ≤ m ∧ m ≤ 64) :
    Calls Try.prog 46 #[stO n m D] W (CopyPost n m v F W) := by
  have Cv := Lib.hid (fun W' (hb : Below W.heap.size W W') => clone_o (cap := D.cv) (h.rv.below hb) nn.1 nn.2)
  have Cl := Lib.hid (fun W' (hb : Below W.heap.size W W') => clone_o (cap := D.cl) (h.rl.below hb) nn.1 nn.2)
  have Cn := Lib.hid (fun W' (hb : Below W.heap.size W W') => clone_o (cap := D.cn) (h.rn.below hb) nn.1 nn.2)
  have Cp := Lib.hid (fun W' (hb : Below W.heap.size W W') => clone_o (cap := D.cp) (h.rp.below hb) nn.1 nn.2)
  have Cf := Lib.hid (fun W' (hb : Below W.heap.size W W') => clone_o (cap := D.cf) (h.rf.below hb) mm.1 (Nat.le_trans mm.2 (by decide)))
  have Ca := Lib.hid (fun W' (hb : Below W.heap.size W W') => clone_o (cap := D.ca) (h.ra.below hb) mm.1 (Nat.le_trans mm.2 (by decide)))
  clear h nn mm
  have KEEP : Hid (∀ {A A' : World}, CopyPo n m D W.heap.size A → Below A.heap.size A A' → CopyPo n m D W.heap.size A') := Lib.hid (fun h hb => keepPo h hb)
  have SET : Hid (∀ (A : World) (j : Nat) (u : Value), CopyPo n m D W.heap.size A → CopyPo n m D W.heap.size (A.setCell ⟨W.heap.size + 1, j, none⟩ u)) := Lib.hid (fun A j u h => setPo A j u h)
  unfold stO
  go_enter Try.func46, Try.ntmps46
  go_wp2_with fail
  obtain ⟨s0, r0⟩ := copyPRo (copy_s0o n m D W)
  have HB := Lib.hid (copy_b0o n m D W)
  have HW := Lib.hid (Below.refl ((W.alloc (.cells #[.slice D.v n D.cv, .slice D.l n D.cl, .slice D.n n D.cn, .slice D.p n D.cp, .slice D.f m D.cf, .slice D.a m D.ca] 39)).alloc (.cells #[.slice none 0 0, .slice none 0 0, .slice none 0 0, .slice none 0 0, .slice none 0 0, .slice none 0 0] 39)).drew.heap.size ((W.alloc (.cells #[.slice D.v n D.cv, .slice D.l n D.cl, .slice D.n n D.cn, .slice D.p n D.cp, .slice D.f m D.cf, .slice D.a m D.ca] 39)).alloc (.cells #[.slice none 0 0, .slice none 0 0, .slice none 0 0, .slice none 0 0, .slice none 0 0, .slice none 0 0] 39)).drew)
  have hE := Lib.hid (copy_e0 W (.cells #[.slice D.v n D.cv, .slice D.l n D.cl, .slice D.n n D.cn, .slice D.p n D.cp, .slice D.f m D.cf, .slice D.a m D.ca] 39) (.cells #[.slice none 0 0, .slice none 0 0, .slice none 0 0, .slice none 0 0, .slice none 0 0, .slice none 0 0] 39))
  generalize eW : (W.alloc (.cells #[.slice D.v n D.cv, .slice D.l n D.cl, .slice D.n n D.cn, .slice D.p n D.cp, .slice D.f m D.cf, .slice D.a m D.ca] 39)).alloc (.cells #[.slice none 0 0, .slice none 0 0, .slice none 0 0, .slice none 0 0, .slice none 0 0, .slice none 0 0] 39) = W0 at *
  clear eW
  have R0 := Lib.hid r0
  clear r0
  unfold CopyPo at s0 KEEP SET
  go_region_held3 (fun Wx => Wx.cell? ⟨W.heap.size, 0, none⟩ = some (.slice D.v n D.cv) ∧ Wx.cell? ⟨W.heap.size, 1, none⟩ = some (.slice D.l n D.cl) ∧ Wx.cell? ⟨W.heap.size, 2, none⟩ = some (.slice D.n n D.cn) ∧ Wx.cell? ⟨W.heap.size, 3, none⟩ = some (.slice D.p n D.cp) ∧ Wx.cell? ⟨W.heap.size, 4, none⟩ = some (.slice D.f m D.cf) ∧ Wx.cell? ⟨W.heap.size, 5, none⟩ = some (.slice D.a m D.ca)) (first | with_reducible exact s0 | with_reducible exact KEEP.out (by assumption) (by assumption) | with_reducible exact SET.out _ _ _ (SET.out _ _ _ (SET.out _ _ _ (SET.out _ _ _ (SET.out _ _ _ (SET.out _ _ _ (by assumption))))))) (first
    | (go_at_call 70; refine (Cv.out _ HB.out).mono ?_; rintro e zv ⟨gv, qv, rfl, hcv, hgv, hrv, hb⟩
       have HB := Lib.hid (HB.out.trans (hb.mono HB.out.size)); have HW := Lib.hid (HW.out.trans (hb.mono HW.out.size)); have HXv := Lib.hid hcv; have HGv := Lib.hid hgv; have HRv := Lib.hid hrv; have HYv := Lib.hid hb
       clear Cv hcv hgv hrv)
    | (go_at_call 70; refine (Cl.out _ HB.out).mono ?_; rintro e zl ⟨gl, ql, rfl, hcl, hgl, hrl, hb⟩
       have HB := Lib.hid (HB.out.trans (hb.mono HB.out.size)); have HW := Lib.hid (HW.out.trans (hb.mono HW.out.size)); have HXl := Lib.hid hcl; have HGl := Lib.hid hgl; have HRl := Lib.hid hrl; have HYl := Lib.hid hb
       clear Cl hcl hgl hrl)
    | (go_at_call 70; refine (Cn.out _ HB.out).mono ?_; rintro e zn ⟨gn, qn, rfl, hcn, hgn, hrn, hb⟩
       have HB := Lib.hid (HB.out.trans (hb.mono HB.out.size)); have HW := Lib.hid (HW.out.trans (hb.mono HW.out.size)); have HXn := Lib.hid hcn; have HGn := Lib.hid hgn; have HRn := Lib.hid hrn; have HYn := Lib.hid hb
       clear Cn hcn hgn hrn)
    | (go_at_call 70; refine (Cp.out _ HB.out).mono ?_; rintro e zp ⟨gp, qp, rfl, hcp, hgp, hrp, hb⟩
       have HB := Lib.hid (HB.out.trans (hb.mono HB.out.size)); have HW := Lib.hid (HW.out.trans (hb.mono HW.out.size)); have HXp := Lib.hid hcp; have HGp := Lib.hid hgp; have HRp := Lib.hid hrp; have HYp := Lib.hid hb
       clear Cp hcp hgp hrp)
    | (go_at_call 70; refine (Cf.out _ HB.out).mono ?_; rintro e zf ⟨gf, qf, rfl, hcf, hgf, hrf, hb⟩
       have HB := Lib.hid (HB.out.trans (hb.mono HB.out.size)); have HW := Lib.hid (HW.out.trans (hb.mono HW.out.size)); have HXf := Lib.hid hcf; have HGf := Lib.hid hgf; have HRf := Lib.hid hrf; have HYf := Lib.hid hb
       clear Cf hcf hgf hrf)
    | (go_at_call 70; refine (Ca.out _ HB.out).mono ?_; rintro e za ⟨ga, qa, rfl, hca, hga, hra, hb⟩
       have HB := Lib.hid (HB.out.trans (hb.mono HB.out.size)); have HW := Lib.hid (HW.out.trans (hb.mono HW.out.size)); have HXa := Lib.hid hca; have HGa := Lib.hid hga; have HRa := Lib.hid hra; have HYa := Lib.hid hb
       clear Ca hca hga hra; obtain ⟨b0, c0, b1, c1, b2, c2, b3, c3, b4, c4, b5, c5⟩ := keepR R0.out HW.out))
  go_wp2_with fail
  have h0 : W.heap.size + 1 < W0.drew.heap.size := World.block_lt_of_cell? _ _ R0.out.1
  have hB := Lib.hid ((((((((Below.refl W.heap.size za).setCell (p := ⟨W.heap.size + 1, 0, none⟩) (by simp) (.slice (some ⟨gv, 0, none⟩) n qv)).setCell (p := ⟨W.heap.size + 1, 1, none⟩) (by simp) (.slice (some ⟨gl, 0, none⟩) n ql)).setCell (p := ⟨W.heap.size + 1, 2, none⟩) (by simp) (.slice (some ⟨gn, 0, none⟩) n qn)).setCell (p := ⟨W.heap.size + 1, 3, none⟩) (by simp) (.slice (some ⟨gp, 0, none⟩) n qp)).setCell (p := ⟨W.heap.size + 1, 4, none⟩) (by simp) (.slice (some ⟨gf, 0, none⟩) m qf)).setCell (p := ⟨W.heap.size + 1, 5, none⟩) (by simp) (.slice (some ⟨ga, 0, none⟩) m qa)))
  have hz := Lib.hid (fun k (hk : k ≠ W.heap.size + 1) => (Below.heap_setCell ((((((za.setCell ⟨W.heap.size + 1, 0, none⟩ (.slice (some ⟨gv, 0, none⟩) n qv)).setCell ⟨W.heap.size + 1, 1, none⟩ (.slice (some ⟨gl, 0, none⟩) n ql)).setCell ⟨W.heap.size + 1, 2, none⟩ (.slice (some ⟨gn, 0, none⟩) n qn)).setCell ⟨W.heap.size + 1, 3, none⟩ (.slice (some ⟨gp, 0, none⟩) n qp)).setCell ⟨W.heap.size + 1, 4, none⟩ (.slice (some ⟨gf, 0, none⟩) m qf))) ⟨W.heap.size + 1, 5, none⟩ (.slice (some ⟨ga, 0, none⟩) m qa) k hk).trans ((Below.heap_setCell _ ⟨W.heap.size + 1, 4, none⟩ _ k hk).trans ((Below.heap_setCell _ ⟨W.heap.size + 1, 3, none⟩ _ k hk).trans ((Below.heap_setCell _ ⟨W.heap.size + 1, 2, none⟩ _ k hk).trans ((Below.heap_setCell _ ⟨W.heap.size + 1, 1, none⟩ _ k hk).trans (Below.heap_setCell _ ⟨W.heap.size + 1, 0, none⟩ _ k hk))))))
  clear KEEP SET s0 hb
  have hbox := box6 (.slice (some ⟨gv, 0, none⟩) n qv) (.slice (some ⟨gl, 0, none⟩) n ql) (.slice (some ⟨gn, 0, none⟩) n qn) (.slice (some ⟨gp, 0, none⟩) n qp) (.slice (some ⟨gf, 0, none⟩) m qf) (.slice (some ⟨ga, 0, none⟩) m qa) ((HW.out.block _ h0).trans hE.out)
  try simp only [Exit.inBlock, Exit.then]
  refine bodyPost_ret (results_cell_row rfl _ _ (W.heap.size + 1) _ _ _ _ rfl hbox Try.underlying39 rfl info_state) rfl ?_
  exact ⟨⟨gv, gl, gn, gp, gf, ga, qv, ql, qn, qp, qf, qa⟩, rfl, copy_fin h0 HB.out HYv.out HYl.out HYn.out HYp.out HYf.out HYa.out HGv.out HGl.out HGn.out HGp.out HGf.out HGa.out HRv.out HRl.out HRn.out HRp.out HRf.out HRa.out HXv.out hz.out hB.out⟩
end Go.Proofs.Ytmelcohfjonjfaa
namespace Go.Proofs.Ytmelcohfjonjfaa
open Go.RowKit

set_option maxHeartbeats 4000000 in
set_option maxRecDepth 100000 in
theorem build_o {W : World} {n m : Nat} {D : LoB} {v : Nat → Int} {F : LkF} (h : RowsO W n m D v F) (nn : 1 ≤ n ∧ n ≤ 2000) (mm : 1 ≤ m ∧ m ≤ 64) :
    Calls Try.prog 40 #[stO n m D] W (BuildPost n m v F W) := by
  obtain ⟨gl, ol, el, _, _⟩ := h.rl 0 (by omega)
  obtain ⟨A, hA⟩ : ∃ A : Obj, A = (.cells #[.slice D.v n D.cv, .slice D.l n D.cl, .slice D.n n D.cn, .slice D.p n D.cp, .slice D.f m D.cf, .slice D.a m D.ca] 39) := ⟨_, rfl⟩
  have hB0 : Below W.heap.size W (W.alloc A) := (Below.refl _ _).alloc (Nat.le_refl _) A
  have h1 : RowsO (W.alloc A) n m D v F := h.below hB0
  have CC := Lib.hid (copy_o h1 nn mm)
  have HB0 := Lib.hid hB0
  have e0 : (W.alloc A).heap[W.heap.size]? = some A := heap_alloc_new W A
  have hsz : (W.alloc A).heap.size = W.heap.size + 1 := Array.size_push ..
  have HL := Lib.hid h.rl
  have HNN := Lib.hid nn; have HMM := Lib.hid mm
  have HE := Lib.hid e0; have HSZ := Lib.hid hsz
  clear h h1 nn mm hB0 e0 hsz
  unfold stO at CC ⊢
  rw [el] at CC hA HL ⊢
  clear el
  subst hA
  go_enter Try.func40, Try.ntmps40
  go_wp2_with fail
  refine CC.out.mono ?_
  rintro e z ⟨D', rfl, P⟩
  have NP := Lib.hid (pool_new P HNN.out HMM.out)
  have hlt : W.heap.size < z.heap.size := by have := P.old.size; have := HSZ.out; omega
  have hKz := (P.old.block W.heap.size (by rw [HSZ.out]; omega)).trans HE.out
  have hBz : Below W.heap.size W z := HB0.out.trans (P.old.mono (by rw [HSZ.out]; omega))
  have hBw := below_box z D' n m hlt hKz (v := .slice (some ⟨gl, ol, none⟩) n D.cl) rfl
  unfold boxP at hBw
  have HP := Lib.hid P
  have HBZ := Lib.hid hBz
  clear P hKz hBz CC HE HSZ
  unfold stV slc
  go_wp2_with fail
  have NQ := Lib.hid (new_less NP.out HB0.out)
  clear NP HP HBZ hBw hlt
  generalize z.alloc (.cells #[.pointer (some ⟨z.heap.size, 0, none⟩), .slice (some ⟨D'.v, 0, none⟩) n D'.cv, .slice (some ⟨D'.l, 0, none⟩) n D'.cl, .slice (some ⟨D'.n, 0, none⟩) n D'.cn, .slice (some ⟨D'.p, 0, none⟩) n D'.cp, .slice (some ⟨D'.f, 0, none⟩) m D'.cf, .slice (some ⟨D'.a, 0, none⟩) m D'.ca] 81) = W2 at NQ ⊢
  generalize z.heap.size = B at NQ ⊢
  go_loopg [17] n (fun n1 i wr => ∃ k : Nat, i = .int .i64 (k : Int) ∧ k + n1 = n ∧ NewPool W wr B n m D' (freeV v F k) F)
  case atStart => exact ⟨0, by go_num, by omega, by rw [freeV_zero]; exact NQ.out⟩
  case round =>
    obtain ⟨k, rfl, hkn, hP⟩ := hrel
    by_cases hlt : k < n
    · obtain ⟨n', rfl⟩ : ∃ n', gk = n' + 1 := ⟨gk - 1, by omega⟩
      obtain ⟨gl2, ol2, el2, _, y0⟩ := HL.out.below hP.old k hlt
      cases el2
      have i1 : (k : Int) < n := by omega
      have k0 : (0 : Int) ≤ k := by omega
      have w1 : IntKind.i64.wrap ((k : Int) + 1) = (k : Int) + 1 := IntWalk.i64_in _ (by have := HNN.out; omega)
      by_cases hx : F.list k = -1
      · have CW := Lib.hid (wipe_any hP.pool k hlt)
        rw [← freeV_wipe hx] at CW
        have HP := Lib.hid hP
        rw [hx] at y0
        clear hx hP
        go_wp2_with fail
        refine CW.out.mono ?_
        rintro e w3 ⟨rfl, P, Bw⟩
        have HP3 := Lib.hid (new_step HP.out P Bw)
        clear P Bw
        go_wp2_with fail
        go_roundg n'
        case measure => omega
        case rel => exact ⟨k + 1, by go_num, by omega, HP3.out⟩
      · have t1 : (F.list k == -1) = false := beq_eq_false_iff_ne.2 hx
        rw [← freeV_keep hx] at hP
        have HP := Lib.hid hP
        generalize F.list k = y at y0 t1
        clear hx hP
        go_wp2_with fail
        go_roundg n'
        case measure => omega
        case rel => exact ⟨k + 1, by go_num, by omega, HP.out⟩
    · obtain rfl : k = n := by omega
      obtain rfl : gk = 0 := by omega
      have HP := Lib.hid hP
      clear hP
      go_wp2_with fail
      go_ret
      exact ⟨B, D', rfl, HP.out⟩
end Go.Proofs.Ytmelcohfjonjfaa
