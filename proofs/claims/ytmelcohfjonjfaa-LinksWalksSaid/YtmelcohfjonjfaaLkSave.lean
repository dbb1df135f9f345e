/- links: slices.Clone. links: what clone (the copy of a state) wants; its walk is a draft (wip/draft/LkSave_copy.txt). -/
import Derived.Test.YtmelcohfjonjfaaLkAsk
import Derived.Lib.SliceRun
namespace Go.Proofs.Ytmelcohfjonjfaa
open Go.RowKit

theorem info_int : (Try.prog.info? 3).map (fun i => (i.zero, i.size, i.bytes)) = some (some (.int .i64 0), 1, 8) := by kernel_rfl
theorem info_partsB {o : Option TypeInfo} {z : Value} {a b : Nat} (h : o.map (fun i => (i.zero, i.size, i.bytes)) = some (some z, a, b)) : ∃ i, o = some i ∧ i.zero = some z ∧ i.size = a ∧ i.bytes = b := by
  cases o with
  | none => cases h
  | some i => simp at h; exact ⟨i, rfl, h.1, h.2.1, h.2.2⟩
def IntC (n : Nat) (f : Nat → Int) : List Value := (List.range n).map fun j => .int .i64 (f j)
theorem IntC_len (n : Nat) (f : Nat → Int) : (IntC n f).length = n := by simp [IntC]
theorem IntC_get {n : Nat} {f : Nat → Int} {j : Nat} (hj : j < n) : (IntC n f)[j]? = some (.int .i64 (f j)) := by
  unfold IntC
  rw [List.getElem?_map, List.getElem?_range hj]
  rfl
def ClonePost (n : Nat) (f : Nat → Int) (w : World) (e : Ending) (w' : World) : Prop := ∃ g c : Nat, e = .returned (.slice (some ⟨g, 0, none⟩) n c) ∧ n ≤ c ∧ w.heap.size ≤ g ∧ RowF w' g n f ∧ Below w.heap.size w w'
theorem own_rowF {w : World} {base n : Nat} {v : Value} {f : Nat → Int} (hn : 1 ≤ n) (h : w.ownsRow base 3 1 v n (IntC n f)) : ∃ g c : Nat, v = .slice (some ⟨g, 0, none⟩) n c ∧ n ≤ c ∧ base ≤ g ∧ RowF w g n f := by
  obtain ⟨_, h2⟩ := h
  rcases h2 with ⟨_, h0⟩ | ⟨g, c, cur, e, hb, hg, hc, _, hs, ht⟩
  · omega
  · refine ⟨g, c, e, hc, hb, cur, hg, by omega, fun j hj => ?_⟩
    have : (cur.toList.take (n * 1))[j]? = (IntC n f)[j]? := by rw [ht]
    rw [IntC_get hj, List.getElem?_take_of_lt (by omega), Array.getElem?_toList] at this
    exact this
set_option maxHeartbeats 4000000 in
set_option maxRecDepth 100000 in
theorem clone_any {w : World} {g n cap : Nat} {f : Nat → Int} (h : RowF w g n f) (hn : 1 ≤ n) (hl : n ≤ 2000) :
    Calls Try.prog 70 #[.slice (some ⟨g, 0, none⟩) n cap] w (ClonePost n f w) := by
  obtain ⟨i0, hi, hz0, hz1, hz2⟩ := info_partsB info_int
  have HIN := Lib.hid hi; have HZ0 := Lib.hid hz0; have HZ1 := Lib.hid hz1; have HZ2 := Lib.hid hz2
  have q22 : ∀ (w : World) (a : Option Addr) (n c n' c' : Nat), (binOp .eql 29 (.slice a n c) (.slice none n' c')).run Try.prog w = .ok (.bool a.isNone) w := fun w a n c n' c' => Lib.run_eql_slice_nil w _ _ a n c n' c' Try.underlying29
  have hlt : g < w.heap.size := by obtain ⟨cur, h1, _⟩ := h; exact (Array.getElem?_eq_some_iff.1 h1).1
  have hcells : ∀ W, Below w.heap.size w W → ∀ j u, (IntC n f)[j]? = some u → W.cell? ((⟨g, 0, none⟩ : Addr).add j) = some u := by
    intro W hW j u hj
    have hjl : j < n := by rw [← IntC_len n f]; exact (List.getElem?_eq_some_iff.1 hj).1
    rw [IntC_get hjl] at hj
    rw [WideShapes.add_plain, Nat.zero_add, ← hj]
    exact ((h.block (hW.block g hlt)).get hjl).1
  have h1c : ∀ u ∈ IntC n f, u.oneCell' = true := by
    intro u hu
    obtain ⟨x, _, hx⟩ := List.mem_map.1 hu
    rw [← hx]; rfl
  have HCE := Lib.hid hcells; have H1C := Lib.hid h1c; have HN := Lib.hid hn; have HL := Lib.hid hl
  clear hi hz0 hz1 hz2 h hcells h1c hn hl hlt
  go_enter Try.func70, Try.ntmps70
  go_wp2_with (at_builtin; refine wpList_append_own _ rfl _ _ 29 rfl w.heap.size 3 i0 (.int .i64 0) 1 8 Try.underlying29 HIN.out HZ0.out HZ1.out HZ2.out rfl (by decide) _ _ _ rfl (World.ownsRow_made w #[] 0 (Nat.le_refl _) (Nat.zero_le _) rfl) ⟨g, 0, none⟩ n cap (IntC n f) rfl (by rw [IntC_len, Nat.mul_one]) (HCE.out _ ((Below.refl _ _).alloc (Nat.le_refl _) _)) H1C.out (by have := HL.out; unfold maxLen; omega) (by have := HL.out; omega) (by simp) ?_; intro v4 w4 hown4 hgrow4 hnil4)
  go_ret
  have hown : w4.ownsRow w.heap.size 3 1 v4 n (IntC n f) := by simpa using hown4
  obtain ⟨g', c', rfl, h1, h2, h3⟩ := own_rowF HN.out hown
  exact ⟨g', c', rfl, h1, h2, h3, ((Below.refl _ w).alloc (Nat.le_refl _) _).grown hgrow4 (by simp) (by intro k hk; cases hk; exact Nat.le_refl _)⟩
end Go.Proofs.Ytmelcohfjonjfaa
namespace Go.Proofs.Ytmelcohfjonjfaa
open Go.RowKit

/-- A state's six rows. -/
structure RowsAt (W : World) (n m : Nat) (D : LkB) (v : Nat → Int) (F : LkF) : Prop where
  rv : RowF W D.v n v
  rl : RowF W D.l n F.list
  rn : RowF W D.n n F.next
  rp : RowF W D.p n F.prev
  rf : RowF W D.f m F.first
  ra : RowF W D.a m F.last
theorem RowF.lt {W : World} {g k : Nat} {f : Nat → Int} (h : RowF W g k f) : g < W.heap.size := by obtain ⟨cur, h1, _⟩ := h; exact (Array.getElem?_eq_some_iff.1 h1).1
theorem RowF.below {W W' : World} {g k D : Nat} {f : Nat → Int} (h : RowF W g k f) (hb : Below D W W') (hd : g < D) : RowF W' g k f := h.block (hb.block g hd)
def stV (n m : Nat) (D : LkB) : Value := .agg #[slc D.v n D.cv, slc D.l n D.cl, slc D.n n D.cn, slc D.p n D.cp, slc D.f m D.cf, slc D.a m D.ca]
/-- New rows, each in a block of its own. -/
structure NewRows (W W' : World) (n m : Nat) (D : LkB) (v : Nat → Int) (F : LkF) : Prop where
  rows : RowsAt W' n m D v F
  old : Below W.heap.size W W'
  ge : W.heap.size ≤ D.v
  ne : D.v < D.l ∧ D.l < D.n ∧ D.n < D.p ∧ D.p < D.f ∧ D.f < D.a
  kv : n ≤ D.cv
def CopyPost (n m : Nat) (v : Nat → Int) (F : LkF) (W : World) (e : Ending) (W' : World) : Prop := ∃ D, e = .returned (stV n m D) ∧ NewRows W W' n m D v F
def CopyS (n m : Nat) (D : LkB) (K : Nat) (W : World) : Prop := W.cell? ⟨K, 0, none⟩ = some (.slice (some ⟨D.v, 0, none⟩) n D.cv) ∧ W.cell? ⟨K, 1, none⟩ = some (.slice (some ⟨D.l, 0, none⟩) n D.cl) ∧ W.cell? ⟨K, 2, none⟩ = some (.slice (some ⟨D.n, 0, none⟩) n D.cn) ∧ W.cell? ⟨K, 3, none⟩ = some (.slice (some ⟨D.p, 0, none⟩) n D.cp) ∧ W.cell? ⟨K, 4, none⟩ = some (.slice (some ⟨D.f, 0, none⟩) m D.cf) ∧ W.cell? ⟨K, 5, none⟩ = some (.slice (some ⟨D.a, 0, none⟩) m D.ca) ∧ W.cell? ⟨K + 1, 0, none⟩ = some (.slice none 0 0) ∧ W.frozen? ⟨K + 1, 0, none⟩ = false ∧ W.cell? ⟨K + 1, 1, none⟩ = some (.slice none 0 0) ∧ W.frozen? ⟨K + 1, 1, none⟩ = false ∧ W.cell? ⟨K + 1, 2, none⟩ = some (.slice none 0 0) ∧ W.frozen? ⟨K + 1, 2, none⟩ = false ∧ W.cell? ⟨K + 1, 3, none⟩ = some (.slice none 0 0) ∧ W.frozen? ⟨K + 1, 3, none⟩ = false ∧ W.cell? ⟨K + 1, 4, none⟩ = some (.slice none 0 0) ∧ W.frozen? ⟨K + 1, 4, none⟩ = false ∧ W.cell? ⟨K + 1, 5, none⟩ = some (.slice none 0 0) ∧ W.frozen? ⟨K + 1, 5, none⟩ = false
theorem keepC {n m : Nat} {D : LkB} {K : Nat} {W W' : World} (h : CopyS n m D K W) (hb : Below W.heap.size W W') : CopyS n m D K W' := by
  unfold CopyS at h ⊢
  obtain ⟨a0, a1, a2, a3, a4, a5, b0, c0, b1, c1, b2, c2, b3, c3, b4, c4, b5, c5⟩ := h
  have h0 : K < W.heap.size := World.block_lt_of_cell? _ _ a0
  have h1 : K + 1 < W.heap.size := World.block_lt_of_cell? _ _ b0
  have e : ∀ j, W'.cell? ⟨K, j, none⟩ = W.cell? ⟨K, j, none⟩ := fun j => hb.cell h0
  have e1 : ∀ j, W'.cell? ⟨K + 1, j, none⟩ = W.cell? ⟨K + 1, j, none⟩ := fun j => hb.cell h1
  have e2 : ∀ j, W'.frozen? ⟨K + 1, j, none⟩ = W.frozen? ⟨K + 1, j, none⟩ := fun j => by unfold World.frozen?; rw [hb.block _ h1]
  simp only [e, e1, e2]
  exact ⟨a0, a1, a2, a3, a4, a5, b0, c0, b1, c1, b2, c2, b3, c3, b4, c4, b5, c5⟩
theorem copy_s0 (n m : Nat) (D : LkB) (W : World) : CopyS n m D W.heap.size ((W.alloc (.cells #[.slice (some ⟨D.v, 0, none⟩) n D.cv, .slice (some ⟨D.l, 0, none⟩) n D.cl, .slice (some ⟨D.n, 0, none⟩) n D.cn, .slice (some ⟨D.p, 0, none⟩) n D.cp, .slice (some ⟨D.f, 0, none⟩) m D.cf, .slice (some ⟨D.a, 0, none⟩) m D.ca] 39)).alloc (.cells #[.slice none 0 0, .slice none 0 0, .slice none 0 0, .slice none 0 0, .slice none 0 0, .slice none 0 0] 39)).drew := by
  obtain ⟨A, hA⟩ : ∃ A : Obj, A = (.cells #[.slice (some ⟨D.v, 0, none⟩) n D.cv, .slice (some ⟨D.l, 0, none⟩) n D.cl, .slice (some ⟨D.n, 0, none⟩) n D.cn, .slice (some ⟨D.p, 0, none⟩) n D.cp, .slice (some ⟨D.f, 0, none⟩) m D.cf, .slice (some ⟨D.a, 0, none⟩) m D.ca] 39) := ⟨_, rfl⟩
  obtain ⟨B, hB⟩ : ∃ B : Obj, B = (.cells #[.slice none 0 0, .slice none 0 0, .slice none 0 0, .slice none 0 0, .slice none 0 0, .slice none 0 0] 39) := ⟨_, rfl⟩
  rw [← hA, ← hB]
  have z : (W.alloc A).heap.size = W.heap.size + 1 := Array.size_push ..
  have e0 : ((W.alloc A).alloc B).drew.heap[W.heap.size]? = some A :=
    (((Below.refl (W.heap.size + 1) (W.alloc A)).alloc (by omega) B).block W.heap.size (by omega)).trans (heap_alloc_new W A)
  have e1 : ((W.alloc A).alloc B).drew.heap[W.heap.size + 1]? = some B := by
    have := heap_alloc_new (W.alloc A) B
    rw [z] at this
    exact this
  subst hA hB
  exact ⟨row_cell e0 rfl, row_cell e0 rfl, row_cell e0 rfl, row_cell e0 rfl, row_cell e0 rfl, row_cell e0 rfl, row_cell e1 rfl, row_free e1, row_cell e1 rfl, row_free e1, row_cell e1 rfl, row_free e1, row_cell e1 rfl, row_free e1, row_cell e1 rfl, row_free e1, row_cell e1 rfl, row_free e1⟩
theorem copy_b0 (n m : Nat) (D : LkB) (W : World) : Below W.heap.size W ((W.alloc (.cells #[.slice (some ⟨D.v, 0, none⟩) n D.cv, .slice (some ⟨D.l, 0, none⟩) n D.cl, .slice (some ⟨D.n, 0, none⟩) n D.cn, .slice (some ⟨D.p, 0, none⟩) n D.cp, .slice (some ⟨D.f, 0, none⟩) m D.cf, .slice (some ⟨D.a, 0, none⟩) m D.ca] 39)).alloc (.cells #[.slice none 0 0, .slice none 0 0, .slice none 0 0, .slice none 0 0, .slice none 0 0, .slice none 0 0] 39)).drew := by
  obtain ⟨A, hA⟩ : ∃ A : Obj, A = (.cells #[.slice (some ⟨D.v, 0, none⟩) n D.cv, .slice (some ⟨D.l, 0, none⟩) n D.cl, .slice (some ⟨D.n, 0, none⟩) n D.cn, .slice (some ⟨D.p, 0, none⟩) n D.cp, .slice (some ⟨D.f, 0, none⟩) m D.cf, .slice (some ⟨D.a, 0, none⟩) m D.ca] 39) := ⟨_, rfl⟩
  obtain ⟨B, hB⟩ : ∃ B : Obj, B = (.cells #[.slice none 0 0, .slice none 0 0, .slice none 0 0, .slice none 0 0, .slice none 0 0, .slice none 0 0] 39) := ⟨_, rfl⟩
  rw [← hA, ← hB]
  have z : (W.alloc A).heap.size = W.heap.size + 1 := Array.size_push ..
  exact (((Below.refl _ _).alloc (Nat.le_refl _) _).alloc (by omega) _).drew
end Go.Proofs.Ytmelcohfjonjfaa
