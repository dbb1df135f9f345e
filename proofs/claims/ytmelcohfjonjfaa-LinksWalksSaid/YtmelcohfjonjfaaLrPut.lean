/- links: the reference's put. -/
import Derived.Test.YtmelcohfjonjfaaLrCut
namespace Go.Proofs.Ytmelcohfjonjfaa
open Go.RowKit

theorem step_app2 {ops : Array Oper} {o : Oper} {a : Act} {w : World} {K : Act → World → Prop} {Q : Exit → Act → World → Prop} {E : Prop} (hgd : o.guard = none) (s x : Operand)
    (ho : o.op = .call { callee := .builtin .append, args := #[s, x], argTypes := #[29, 29] }) (v : Value) (n : Nat) (xs : List Value) (hs : a.eval s = v) {base : Nat} (hown : w.ownsRow base 3 1 v n xs)
    (xv : Value) (m : Nat) (f : Nat → Int) (hx : a.eval x = xv) (hnews : NewsAt w xv m f) (hb : base ≤ w.heap.size) (hnm : n + m ≤ 100000)
    (h : ∀ v' w', w'.ownsRow base 3 1 v' (n + m) (xs ++ IntC m f) → Below base w w' → w.grownBy w' v.ownBlock → K (a.put o.dst v') w') :
    if Region.wanted o (yielded ops a.tmps) = true then Oper.wp Try.prog o a w K Q else E := by
  have hw : Region.wanted o (yielded ops a.tmps) = true := by simp [Region.wanted, hgd]
  rw [if_pos hw]
  obtain ⟨v', w', hr, h2, h3⟩ := run_app o.type hown hnews hb hnm
  unfold Oper.wp execOp
  simp only [ho, resolve, invoke, builtin, Sem.run_bind, Sem.run_pure, Result.andThen_ok, List.map_toArray, List.map_cons, List.map_nil, hs, hx, hr]
  exact h v' w' h2 ((Below.refl base w).grown h3 hb (fun k e => (hown.lt k e).1)) h3
theorem news_one {W : World} {b : Nat} {x : Int} {t : TypeId} (h : W.heap[b]? = some (.cells #[.int .i64 x] t (0, 0))) : NewsAt W (.slice (some ⟨b, 0, none⟩) 1 1) 1 (fun _ => x) :=
  .inr ⟨b, 0, 1, rfl, fun j hj => by have e : j = 0 := by omega
                                     subst e; exact row_cell h rfl⟩
theorem size1 (w : World) (o : Obj) : (w.alloc o).heap.size = w.heap.size + 1 := Array.size_push ..
set_option maxHeartbeats 4000000 in
set_option maxRecDepth 100000 in
theorem put_some {K : Nat → Prop} {W : World} {C g gv cg cv n m base : Nat} {v : Nat → Int} {of : Nat → List Nat} (h : LsAt K W C g gv cg cv n m v of) (hk : KOk K base C g gv) (hbs : base ≤ W.heap.size) {i k : Nat} (hi : i < m) (hm : m ≤ 100000) {L : List Nat} (hL : of i = L) (hkl : k ≤ L.length) (hl : L.length ≤ 2000) (x : Nat) {q c : Nat} (u0 : W.cell? ⟨g, i, none⟩ = some (.slice (some ⟨q, 0, none⟩) L.length c)) (u1 : W.frozen? ⟨g, i, none⟩ = false) (hcl : L.length ≤ c) (hq : q < W.heap.size) (hx : ∀ j, j < L.length → W.cell? ⟨q, j, none⟩ = some (.int .i64 (natF L j))) :
    Calls Try.prog 66 #[.pointer (some ⟨C, 0, none⟩), .int .i64 (i : Int), .int .i64 (k : Int), .int .i64 (x : Int)] W (LsPost K C g gv cg cv n m v (setOf of i (L.take k ++ x :: L.drop k)) W) := by
  obtain ⟨c0, c1, c2⟩ := h.cells
  have HLS := Lib.hid h; have HK := Lib.hid hk; have HBS := Lib.hid hbs
  have n1 := h.ne.1
  have hlt := hk.lt
  have i0 : (0 : Int) ≤ i := by omega
  have i1 : (i : Int) < m := by omega
  have k0 : (0 : Int) ≤ k := by omega
  have k1 : (k : Int) ≤ c := by omega
  have k2 : (k : Int) ≤ (L.length : Int) := by omega
  have k4 : (L.length : Int) ≤ c := by omega
  have HN1 := Lib.hid (fun V (hb : Below W.heap.size W V) => news_take (K := K) (V := V) (c := c) (c' := c) hx hq hb hkl)
  have HN2 := Lib.hid (fun V (hb : Below W.heap.size W V) => news_drop (V := V) hx hq hb hcl k)
  have hKEEP : ∀ (A A' : World), A.cell? ⟨C, 1, none⟩ = some (.slice (some ⟨g, 0, none⟩) m cg) → Below W.heap.size A A' → A'.cell? ⟨C, 1, none⟩ = some (.slice (some ⟨g, 0, none⟩) m cg) := fun A A' ha hb => (hb.cell (p := ⟨C, 1, none⟩) (by show C < _; omega)).trans ha
  have hSET : ∀ (A : World) (u : Value), A.cell? ⟨C, 1, none⟩ = some (.slice (some ⟨g, 0, none⟩) m cg) → (A.setCell ⟨g, i, none⟩ u).cell? ⟨C, 1, none⟩ = some (.slice (some ⟨g, 0, none⟩) m cg) := fun A u ha => (World.cell?_of_block (w := A) (Below.heap_setCell _ _ _ _ (by simpa using n1))).trans ha
  have hALL : ∀ (A : World) (o : Obj), A.cell? ⟨C, 1, none⟩ = some (.slice (some ⟨g, 0, none⟩) m cg) → (A.alloc o).cell? ⟨C, 1, none⟩ = some (.slice (some ⟨g, 0, none⟩) m cg) := fun A o ha => (World.cell?_of_block (w := A) (w' := A.alloc o) (a := ⟨C, 1, none⟩) (Below.heap_alloc A o C (World.block_lt_of_cell? A ⟨C, 1, none⟩ ha))).trans ha
  have s0 : W.drew.cell? ⟨C, 1, none⟩ = some (.slice (some ⟨g, 0, none⟩) m cg) := c1
  have s1 : (W.alloc (.cells #[] 3)).drew.cell? ⟨C, 1, none⟩ = some (.slice (some ⟨g, 0, none⟩) m cg) := hALL W _ c1
  have s2 : (W.alloc (.cells #[.int .i64 (x : Int)] 3)).drew.cell? ⟨C, 1, none⟩ = some (.slice (some ⟨g, 0, none⟩) m cg) := hALL W _ c1
  have s3 : ((W.alloc (.cells #[] 3)).alloc (.cells #[.int .i64 (x : Int)] 3)).drew.cell? ⟨C, 1, none⟩ = some (.slice (some ⟨g, 0, none⟩) m cg) := hALL _ _ (hALL W _ c1)
  have s4 : ((W.alloc (.cells #[.int .i64 (x : Int)] 3)).alloc (.cells #[] 3)).drew.cell? ⟨C, 1, none⟩ = some (.slice (some ⟨g, 0, none⟩) m cg) := hALL _ _ (hALL W _ c1)
  have KEEP := Lib.hid hKEEP; have SET := Lib.hid hSET; have ALL := Lib.hid hALL
  have HKL := Lib.hid hkl; have HL := Lib.hid hl
  have HG := Lib.hid (show g < W.heap.size by omega)
  have HROW := Lib.hid u0; have HFR := Lib.hid u1
  have hBA := Lib.hid ((((Below.refl W.heap.size W)).alloc (Nat.le_refl _) (.cells #[] 3)).drew)
  have hBB := Lib.hid ((((Below.refl W.heap.size W).alloc (Nat.le_refl _) (.cells #[] 3)).alloc (by rw [size1]; omega) (.cells #[.int .i64 (x : Int)] 3)).drew)
  have hBC := Lib.hid ((((Below.refl W.heap.size W).alloc (Nat.le_refl _) (.cells #[.int .i64 (x : Int)] 3)).alloc (by rw [size1]; omega) (.cells #[] 3)).drew)
  have HZB := Lib.hid (heap_alloc2_new W (.cells #[] 3) (.cells #[.int .i64 (x : Int)] 3)); have HZC := Lib.hid (heap_alloc2_old W (.cells #[.int .i64 (x : Int)] 3) (.cells #[] 3))
  have HTB : Hid (((W.alloc (.cells #[] 3)).alloc (.cells #[.int .i64 (x : Int)] 3)).heap.size = W.heap.size + 2) := Lib.hid (by rw [size1, size1])
  have HTC : Hid (((W.alloc (.cells #[.int .i64 (x : Int)] 3)).alloc (.cells #[] 3)).heap.size = W.heap.size + 2) := Lib.hid (by rw [size1, size1])
  have HMC := Lib.hid (World.ownsRow_made (W.alloc (.cells #[.int .i64 (x : Int)] 3)) (e := 3) (size := 1) (base := W.heap.size) #[] 0 (by rw [size1]; omega) (Nat.zero_le _) rfl)
  have HS1 := Lib.hid (size1 W (.cells #[.int .i64 (x : Int)] 3))
  clear h hk hbs hkl hl hKEEP hSET hALL n1 hlt hx hq hcl
  rw [HS1.out] at HMC
  go_enter Try.func66, Try.ntmps66
  go_wp2_with fail
  go_region_held3 (fun Wx => Wx.cell? ⟨C, 1, none⟩ = some (.slice (some ⟨g, 0, none⟩) m cg)) (first | with_reducible exact s0 | with_reducible exact s1 | with_reducible exact s2 | with_reducible exact s3 | with_reducible exact s4 | with_reducible exact ALL.out _ _ (by assumption) | with_reducible exact KEEP.out _ _ (by assumption) (by assumption) | with_reducible exact SET.out _ _ (by assumption)) (first
    | (refine step_app2 (w := (W.alloc (.cells #[] 3)).drew) rfl (.tmp 21) (.tmp 24) rfl (.slice (some ⟨W.heap.size, 0, none⟩) 0 0) 0 [] rfl (World.ownsRow_made W #[] 0 (Nat.le_refl _) (Nat.zero_le _) rfl) _ k (natF L) rfl (HN1.out _ hBA.out) hBA.out.size (by have := HKL.out; have := HL.out; omega) ?_; intro v4 w4 hown4 hb4 hg4
       have HOWN4 := Lib.hid hown4; have HB4 := Lib.hid (hBA.out.trans hb4)
       have HX4 := Lib.hid (news_one (heap_alloc_new w4 (.cells #[.int .i64 (x : Int)] 3))); have hb4a := HB4.out.alloc HB4.out.size (.cells #[.int .i64 (x : Int)] 3)
       have HOWNA := Lib.hid (HOWN4.out.alloc (.cells #[.int .i64 (x : Int)] 3)); have HBA4 := Lib.hid hb4a
       clear hown4 hg4 HOWN4 hb4a)
    | (refine step_app2 (w := ((W.alloc (.cells #[] 3)).alloc (.cells #[.int .i64 (x : Int)] 3)).drew) rfl (.tmp 21) (.tmp 24) rfl (.slice (some ⟨W.heap.size, 0, none⟩) 0 0) 0 [] rfl ((World.ownsRow_made W #[] 0 (Nat.le_refl _) (Nat.zero_le _) rfl : (W.alloc (.cells #[] 3)).ownsRow W.heap.size 3 1 (.slice (some ⟨W.heap.size, 0, none⟩) 0 0) 0 []).alloc (.cells #[.int .i64 (x : Int)] 3)) _ k (natF L) rfl (HN1.out _ hBB.out) hBB.out.size (by have := HKL.out; have := HL.out; omega) ?_; intro v4 w4 hown4 hb4 hg4
       have HX4 := Lib.hid (news_one ((hg4.block (W.heap.size + 1) (by show _ < ((W.alloc (.cells #[] 3)).alloc (.cells #[.int .i64 (x : Int)] 3)).heap.size; rw [HTB.out]; omega) (by simp [Value.ownBlock])).trans HZB.out))
       have HOWNA := Lib.hid hown4; have HBA4 := Lib.hid (hBB.out.trans hb4)
       clear hown4 hg4)
    | (refine step_app2 (w := ((W.alloc (.cells #[.int .i64 (x : Int)] 3)).alloc (.cells #[] 3)).drew) rfl (.tmp 21) (.tmp 24) rfl (.slice (some ⟨W.heap.size + 1, 0, none⟩) 0 0) 0 [] rfl HMC.out _ k (natF L) rfl (HN1.out _ hBC.out) hBC.out.size (by have := HKL.out; have := HL.out; omega) ?_; intro v4 w4 hown4 hb4 hg4
       have HX4 := Lib.hid (news_one ((hg4.block W.heap.size (by show _ < ((W.alloc (.cells #[.int .i64 (x : Int)] 3)).alloc (.cells #[] 3)).heap.size; rw [HTC.out]; omega) (by simp [Value.ownBlock])).trans HZC.out))
       have HOWNA := Lib.hid hown4; have HBA4 := Lib.hid (hBC.out.trans hb4)
       clear hown4 hg4)
    | (refine step_app2 rfl (.tmp 25) (.tmp 27) rfl _ (0 + k) ([] ++ IntC k (natF L)) rfl HOWNA.out _ 1 (fun _ => (x : Int)) rfl HX4.out HBA4.out.size (by have := HKL.out; have := HL.out; omega) ?_; intro v5 w5 hown5 hb5 hg5
       have HOWN5 := Lib.hid hown5; have HB5 := Lib.hid (HBA4.out.trans hb5)
       clear hown5 hg5 HX4 HOWNA)
    | (refine step_app2 rfl (.tmp 28) (.tmp 31) rfl _ (0 + k + 1) ([] ++ IntC k (natF L) ++ IntC 1 (fun _ => (x : Int))) rfl HOWN5.out _ (L.length - k) (fun j => natF L (k + j)) rfl (HN2.out _ HB5.out) HB5.out.size (by have := HKL.out; have := HL.out; omega) ?_; intro v6 w6 hown6 hb6 hg6
       obtain ⟨N6, hN6⟩ : ∃ N6, N6 = 0 + k + 1 + (L.length - k) := ⟨_, rfl⟩
       rw [← hN6] at hown6
       have HN6 := Lib.hid hN6
       clear hN6
       obtain ⟨p6, c6, rfl⟩ := own_slice hown6
       have HOWN6 := Lib.hid hown6; have HB6 := Lib.hid (HB5.out.trans hb6)
       have f0 := (HB6.out.cell (p := ⟨g, i, none⟩) HG.out).trans HROW.out
       have f1 := (HB6.out.frozen (p := ⟨g, i, none⟩) HG.out).trans HFR.out
       clear hown6 hg6))
  all_goals
    clear KEEP SET ALL s0 s1 s2 s3 s4 f0 f1 c0 c1 c2
    go_end0
    exact ⟨rfl, HLS.out.setList HK.out HBS.out HB6.out hi (own_slK (put_own HN6.out HOWN6.out HKL.out) (fun q hq => HK.out.new q (Nat.le_trans HBS.out hq))), belowS_set HB6.out _⟩
set_option maxHeartbeats 4000000 in
set_option maxRecDepth 100000 in
theorem put_nil {K : Nat → Prop} {W : World} {C g gv cg cv n m base : Nat} {v : Nat → Int} {of : Nat → List Nat} (h : LsAt K W C g gv cg cv n m v of) (hk : KOk K base C g gv) (hbs : base ≤ W.heap.size) {i k : Nat} (hi : i < m) (hm : m ≤ 100000) {L : List Nat} (hL : of i = L) (hkl : k ≤ L.length) (hl : L.length ≤ 2000) (x : Nat) (hnil : L = []) (u0 : W.cell? ⟨g, i, none⟩ = some (.slice none 0 0)) (u1 : W.frozen? ⟨g, i, none⟩ = false) :
    Calls Try.prog 66 #[.pointer (some ⟨C, 0, none⟩), .int .i64 (i : Int), .int .i64 (k : Int), .int .i64 (x : Int)] W (LsPost K C g gv cg cv n m v (setOf of i (L.take k ++ x :: L.drop k)) W) := by
  obtain ⟨c0, c1, c2⟩ := h.cells
  subst hnil
  obtain rfl : k = 0 := by simpa using hkl
  have HLS := Lib.hid h; have HK := Lib.hid hk; have HBS := Lib.hid hbs
  have n1 := h.ne.1
  have hlt := hk.lt
  have i0 : (0 : Int) ≤ i := by omega
  have i1 : (i : Int) < m := by omega
  have HN1 : Hid (∀ V, Below W.heap.size W V → NewsAt V (.slice none 0 0) 0 (natF [])) := Lib.hid (fun V _ => .inl ⟨rfl, rfl⟩)
  have HN2 : Hid (∀ V, Below W.heap.size W V → NewsAt V (.slice none 0 0) (([] : List Nat).length - 0) (fun j => natF [] (0 + j))) := Lib.hid (fun V _ => .inl ⟨rfl, rfl⟩)
  have hKEEP : ∀ (A A' : World), A.cell? ⟨C, 1, none⟩ = some (.slice (some ⟨g, 0, none⟩) m cg) → Below W.heap.size A A' → A'.cell? ⟨C, 1, none⟩ = some (.slice (some ⟨g, 0, none⟩) m cg) := fun A A' ha hb => (hb.cell (p := ⟨C, 1, none⟩) (by show C < _; omega)).trans ha
  have hSET : ∀ (A : World) (u : Value), A.cell? ⟨C, 1, none⟩ = some (.slice (some ⟨g, 0, none⟩) m cg) → (A.setCell ⟨g, i, none⟩ u).cell? ⟨C, 1, none⟩ = some (.slice (some ⟨g, 0, none⟩) m cg) := fun A u ha => (World.cell?_of_block (w := A) (Below.heap_setCell _ _ _ _ (by simpa using n1))).trans ha
  have hALL : ∀ (A : World) (o : Obj), A.cell? ⟨C, 1, none⟩ = some (.slice (some ⟨g, 0, none⟩) m cg) → (A.alloc o).cell? ⟨C, 1, none⟩ = some (.slice (some ⟨g, 0, none⟩) m cg) := fun A o ha => (World.cell?_of_block (w := A) (w' := A.alloc o) (a := ⟨C, 1, none⟩) (Below.heap_alloc A o C (World.block_lt_of_cell? A ⟨C, 1, none⟩ ha))).trans ha
  have s0 : W.drew.cell? ⟨C, 1, none⟩ = some (.slice (some ⟨g, 0, none⟩) m cg) := c1
  have s1 : (W.alloc (.cells #[] 3)).drew.cell? ⟨C, 1, none⟩ = some (.slice (some ⟨g, 0, none⟩) m cg) := hALL W _ c1
  have s2 : (W.alloc (.cells #[.int .i64 (x : Int)] 3)).drew.cell? ⟨C, 1, none⟩ = some (.slice (some ⟨g, 0, none⟩) m cg) := hALL W _ c1
  have s3 : ((W.alloc (.cells #[] 3)).alloc (.cells #[.int .i64 (x : Int)] 3)).drew.cell? ⟨C, 1, none⟩ = some (.slice (some ⟨g, 0, none⟩) m cg) := hALL _ _ (hALL W _ c1)
  have s4 : ((W.alloc (.cells #[.int .i64 (x : Int)] 3)).alloc (.cells #[] 3)).drew.cell? ⟨C, 1, none⟩ = some (.slice (some ⟨g, 0, none⟩) m cg) := hALL _ _ (hALL W _ c1)
  have KEEP := Lib.hid hKEEP; have SET := Lib.hid hSET; have ALL := Lib.hid hALL
  have HKL := Lib.hid hkl; have HL := Lib.hid hl
  have HG := Lib.hid (show g < W.heap.size by omega)
  have HROW := Lib.hid u0; have HFR := Lib.hid u1
  have hBA := Lib.hid ((((Below.refl W.heap.size W)).alloc (Nat.le_refl _) (.cells #[] 3)).drew)
  have hBB := Lib.hid ((((Below.refl W.heap.size W).alloc (Nat.le_refl _) (.cells #[] 3)).alloc (by rw [size1]; omega) (.cells #[.int .i64 (x : Int)] 3)).drew)
  have hBC := Lib.hid ((((Below.refl W.heap.size W).alloc (Nat.le_refl _) (.cells #[.int .i64 (x : Int)] 3)).alloc (by rw [size1]; omega) (.cells #[] 3)).drew)
  have HZB := Lib.hid (heap_alloc2_new W (.cells #[] 3) (.cells #[.int .i64 (x : Int)] 3)); have HZC := Lib.hid (heap_alloc2_old W (.cells #[.int .i64 (x : Int)] 3) (.cells #[] 3))
  have HTB : Hid (((W.alloc (.cells #[] 3)).alloc (.cells #[.int .i64 (x : Int)] 3)).heap.size = W.heap.size + 2) := Lib.hid (by rw [size1, size1])
  have HTC : Hid (((W.alloc (.cells #[.int .i64 (x : Int)] 3)).alloc (.cells #[] 3)).heap.size = W.heap.size + 2) := Lib.hid (by rw [size1, size1])
  have HMC := Lib.hid (World.ownsRow_made (W.alloc (.cells #[.int .i64 (x : Int)] 3)) (e := 3) (size := 1) (base := W.heap.size) #[] 0 (by rw [size1]; omega) (Nat.zero_le _) rfl)
  have HS1 := Lib.hid (size1 W (.cells #[.int .i64 (x : Int)] 3))
  clear h hk hbs hkl hl hKEEP hSET hALL n1 hlt 
  rw [HS1.out] at HMC
  go_enter Try.func66, Try.ntmps66
  go_wp2_with fail
  go_region_held3 (fun Wx => Wx.cell? ⟨C, 1, none⟩ = some (.slice (some ⟨g, 0, none⟩) m cg)) (first | with_reducible exact s0 | with_reducible exact s1 | with_reducible exact s2 | with_reducible exact s3 | with_reducible exact s4 | with_reducible exact ALL.out _ _ (by assumption) | with_reducible exact KEEP.out _ _ (by assumption) (by assumption) | with_reducible exact SET.out _ _ (by assumption)) (first
    | (refine step_app2 (w := (W.alloc (.cells #[] 3)).drew) rfl (.tmp 21) (.tmp 24) rfl (.slice (some ⟨W.heap.size, 0, none⟩) 0 0) 0 [] rfl (World.ownsRow_made W #[] 0 (Nat.le_refl _) (Nat.zero_le _) rfl) _ 0 (natF []) rfl (HN1.out _ hBA.out) hBA.out.size (by decide) ?_; intro v4 w4 hown4 hb4 hg4
       have HOWN4 := Lib.hid hown4; have HB4 := Lib.hid (hBA.out.trans hb4)
       have HX4 := Lib.hid (news_one (heap_alloc_new w4 (.cells #[.int .i64 (x : Int)] 3))); have hb4a := HB4.out.alloc HB4.out.size (.cells #[.int .i64 (x : Int)] 3)
       have HOWNA := Lib.hid (HOWN4.out.alloc (.cells #[.int .i64 (x : Int)] 3)); have HBA4 := Lib.hid hb4a
       clear hown4 hg4 HOWN4 hb4a)
    | (refine step_app2 (w := ((W.alloc (.cells #[] 3)).alloc (.cells #[.int .i64 (x : Int)] 3)).drew) rfl (.tmp 21) (.tmp 24) rfl (.slice (some ⟨W.heap.size, 0, none⟩) 0 0) 0 [] rfl ((World.ownsRow_made W #[] 0 (Nat.le_refl _) (Nat.zero_le _) rfl : (W.alloc (.cells #[] 3)).ownsRow W.heap.size 3 1 (.slice (some ⟨W.heap.size, 0, none⟩) 0 0) 0 []).alloc (.cells #[.int .i64 (x : Int)] 3)) _ 0 (natF []) rfl (HN1.out _ hBB.out) hBB.out.size (by decide) ?_; intro v4 w4 hown4 hb4 hg4
       have HX4 := Lib.hid (news_one ((hg4.block (W.heap.size + 1) (by show _ < ((W.alloc (.cells #[] 3)).alloc (.cells #[.int .i64 (x : Int)] 3)).heap.size; rw [HTB.out]; omega) (by simp [Value.ownBlock])).trans HZB.out))
       have HOWNA := Lib.hid hown4; have HBA4 := Lib.hid (hBB.out.trans hb4)
       clear hown4 hg4)
    | (refine step_app2 (w := ((W.alloc (.cells #[.int .i64 (x : Int)] 3)).alloc (.cells #[] 3)).drew) rfl (.tmp 21) (.tmp 24) rfl (.slice (some ⟨W.heap.size + 1, 0, none⟩) 0 0) 0 [] rfl HMC.out _ 0 (natF []) rfl (HN1.out _ hBC.out) hBC.out.size (by decide) ?_; intro v4 w4 hown4 hb4 hg4
       have HX4 := Lib.hid (news_one ((hg4.block W.heap.size (by show _ < ((W.alloc (.cells #[.int .i64 (x : Int)] 3)).alloc (.cells #[] 3)).heap.size; rw [HTC.out]; omega) (by simp [Value.ownBlock])).trans HZC.out))
       have HOWNA := Lib.hid hown4; have HBA4 := Lib.hid (hBC.out.trans hb4)
       clear hown4 hg4)
    | (refine step_app2 rfl (.tmp 25) (.tmp 27) rfl _ (0 + 0) ([] ++ IntC 0 (natF [])) rfl HOWNA.out _ 1 (fun _ => (x : Int)) rfl HX4.out HBA4.out.size (by decide) ?_; intro v5 w5 hown5 hb5 hg5
       have HOWN5 := Lib.hid hown5; have HB5 := Lib.hid (HBA4.out.trans hb5)
       clear hown5 hg5 HX4 HOWNA)
    | (refine step_app2 rfl (.tmp 28) (.tmp 31) rfl _ (0 + 0 + 1) ([] ++ IntC 0 (natF []) ++ IntC 1 (fun _ => (x : Int))) rfl HOWN5.out _ (([] : List Nat).length - 0) (fun j => natF [] (0 + j)) rfl (HN2.out _ HB5.out) HB5.out.size (by decide) ?_; intro v6 w6 hown6 hb6 hg6
       obtain ⟨N6, hN6⟩ : ∃ N6, N6 = 0 + 0 + 1 + (([] : List Nat).length - 0) := ⟨_, rfl⟩
       rw [← hN6] at hown6
       have HN6 := Lib.hid hN6
       clear hN6
       obtain ⟨p6, c6, rfl⟩ := own_slice hown6
       have HOWN6 := Lib.hid hown6; have HB6 := Lib.hid (HB5.out.trans hb6)
       have f0 := (HB6.out.cell (p := ⟨g, i, none⟩) HG.out).trans HROW.out
       have f1 := (HB6.out.frozen (p := ⟨g, i, none⟩) HG.out).trans HFR.out
       clear hown6 hg6))
  all_goals
    clear KEEP SET ALL s0 s1 s2 s3 s4 f0 f1 c0 c1 c2
    go_end0
    exact ⟨rfl, HLS.out.setList HK.out HBS.out HB6.out hi (own_slK (put_own HN6.out HOWN6.out (Nat.le_refl _)) (fun q hq => HK.out.new q (Nat.le_trans HBS.out hq))), belowS_set HB6.out _⟩
theorem put_any2 {K : Nat → Prop} {W : World} {C g gv cg cv n m base : Nat} {v : Nat → Int} {of : Nat → List Nat} (h : LsAt K W C g gv cg cv n m v of) (hk : KOk K base C g gv) (hbs : base ≤ W.heap.size) {i k : Nat} (hi : i < m) (hm : m ≤ 100000) {L : List Nat} (hL : of i = L) (hkl : k ≤ L.length) (hl : L.length ≤ 2000) (x : Nat) :
    Calls Try.prog 66 #[.pointer (some ⟨C, 0, none⟩), .int .i64 (i : Int), .int .i64 (k : Int), .int .i64 (x : Int)] W (LsPost K C g gv cg cv n m v (setOf of i (L.take k ++ x :: L.drop k)) W) := by
  obtain ⟨u, u0, u1, hu⟩ := h.row hi
  rw [hL] at hu
  rcases hu with ⟨rfl, hnil⟩ | ⟨q, c, rfl, hcl, hKq, hq, hx⟩
  · exact put_nil h hk hbs hi hm hL hkl hl x hnil u0 u1
  · exact put_some h hk hbs hi hm hL hkl hl x u0 u1 hcl hq hx
end Go.Proofs.Ytmelcohfjonjfaa
