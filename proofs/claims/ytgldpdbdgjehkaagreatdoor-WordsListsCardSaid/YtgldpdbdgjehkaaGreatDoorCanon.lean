/- canonical: what it returns. -/
import Derived.Test.YtgldpdbdgjehkaaGreatDoorCMath
import Derived.Deep.OwnRows
namespace Go.Proofs.YtgldpdbdgjehkaaGreatDoor
open Go.RowKit Go.Shelf
attribute [local go_sem] Oper.semAt_some

theorem info_string : (Tryz.prog.info? 9).map (fun i => (i.zero, i.size, i.bytes)) = some (some (.string ⟨#[]⟩), 1, 16) := by kernel_rfl
/-- The cells of a row of texts. -/
def rowC (ts : List (List UInt8)) : Array Value := (ts.map fun t => Value.string ⟨t.toArray⟩).toArray
def markOf (D : Nat) : Deferred := { target := .collected D, args := #[] }
theorem leaves_marks {n : Nat} {P : Program} {fn : Func} {tmps : Array Value} {R : Ending → World → Prop} (B : Nat) (w0 : World) : ∀ (ds : List Nat) (W : World), (∀ D ∈ ds, B ≤ D ∧ W.heap[D]? = some (.deferred (some []))) → ds.Nodup → Below B w0 W →
    (∀ W', Below B w0 W' → LeavesInM Fence.wide n P fn tmps R [] .returning W') → LeavesInM Fence.wide n P fn tmps R (ds.map markOf) .returning W
  | [], W, _, _, hb, h => h W hb
  | D :: ds, W, hm, hn, hb, h => by
    have hD := hm D (by simp)
    have hlt := (Array.getElem?_eq_some_iff.1 hD.2).1
    refine ⟨by simp, .inl ⟨D, _, rfl, run_takeDeferred hD.2, leaves_marks B w0 ds _ ?_ (List.nodup_cons.1 hn).2 ?_ h⟩⟩
    · intro E hE
      have hne : E ≠ D := fun e => (List.nodup_cons.1 hn).1 (e ▸ hE)
      exact ⟨(hm E (List.mem_cons_of_mem _ hE)).1, (World.putObj_heap_other hne).trans (hm E (List.mem_cons_of_mem _ hE)).2⟩
    · exact hb.trans ((Below.refl B W).grown (grownBy_putObj' W D _) (by omega) (fun k e => by cases e; exact hD.1))

/-- What holds at the head of a round: k numbers are still to do. -/
structure CInv (w : World) (g off cap : Nat) (l : List Int) (k Bi : Nat) (ds : List Nat) (W : World) : Prop where
  le : k ≤ l.length
  env : Env W
  below : Below w.heap.size w W
  lbox : W.heap[w.heap.size]? = some (.cells #[.slice (some ⟨g, off, none⟩) l.length cap] 31 (0, 0))
  row : W.heap[w.heap.size + 1]? = some (.cells (rowC (List.replicate k [] ++ bests (l.drop k))) 9 (0, 0))
  bbox : W.heap[w.heap.size + 1 + 1]? = some (.cells #[.slice (some ⟨w.heap.size + 1, 0, none⟩) (l.length + 1) (l.length + 1)] 58 (0, 0))
  ibox : W.heap[Bi]? = some (.cells #[.int .i64 ((k : Int) - 1)] 3 (0, 0))
  hBi : w.heap.size + 1 + 1 < Bi
  marks : ∀ D ∈ ds, w.heap.size ≤ D ∧ W.heap[D]? = some (.deferred (some []))
  nodup : ds.Nodup
def CanonPost (l : List Int) (w : World) (e : Ending) (W' : World) : Prop := e = .returned (.string ⟨(canonL l).toArray⟩) ∧ Below w.heap.size w W'
theorem rowC_rep (n : Nat) : rowC (List.replicate n []) = madeCells #[.string ⟨#[]⟩] n := by
  apply Array.ext
  · simp [rowC, madeCells]
  · intro i h1 h2
    have h3 : i % 1 = 0 := Nat.mod_one i
    simp [rowC, madeCells, h3]
theorem rowC_set (i : Nat) (c c' : List UInt8) (T : List (List UInt8)) : (rowC (List.replicate i [] ++ c :: T)).setIfInBounds i (.string ⟨c'.toArray⟩) = rowC (List.replicate i [] ++ c' :: T) := by
  unfold rowC
  rw [List.setIfInBounds_toArray, List.map_append, List.map_append, List.set_append_right _ _ (by simp)]
  simp only [List.length_map, List.length_replicate, Nat.sub_self, List.map_cons, List.set_cons_zero]
theorem rowC_get (i : Nat) (c : List UInt8) (T : List (List UInt8)) : (rowC (List.replicate i [] ++ c :: T))[i]? = some (.string ⟨c.toArray⟩) := by
  unfold rowC; simp
theorem rowC_behind (i j : Nat) (c : List UInt8) (T : List (List UInt8)) (hj : 1 ≤ j) (hT : j - 1 < T.length) : (rowC (List.replicate i [] ++ c :: T))[i + j]? = some (.string ⟨(T[j - 1]?.getD []).toArray⟩) := by
  unfold rowC
  obtain ⟨j, rfl⟩ : ∃ q, j = q + 1 := ⟨j - 1, by omega⟩
  simp only [Nat.add_sub_cancel] at hT ⊢
  rw [List.getElem?_toArray, List.getElem?_map, List.getElem?_append_right (by simp)]
  simp only [List.length_replicate]
  rw [show i + (j + 1) - i = j + 1 by omega, List.getElem?_cons_succ, List.getElem?_eq_getElem hT]
  rfl
theorem heap_setCell_cells {W : World} {B i : Nat} {cs : Array Value} {t : TypeId} (v : Value) (h : W.heap[B]? = some (.cells cs t (0, 0))) : (W.setCell ⟨B, i, none⟩ v).heap[B]? = some (.cells (cs.setIfInBounds i v) t (0, 0)) := by
  have hlt := lt_of_block h
  have h' : W.heap[B] = .cells cs t (0, 0) := by simpa [Array.getElem?_eq_getElem hlt] using h
  show (W.heap.modify B _)[B]? = _
  rw [Array.getElem?_eq_getElem (by simpa using hlt), Array.getElem_modify_self, h']
  rfl
theorem row_cell {W : World} {B i : Nat} {cs : Array Value} {t : TypeId} {v : Value} (h : W.heap[B]? = some (.cells cs t (0, 0))) (hv : cs[i]? = some v) : W.cell? ⟨B, i, none⟩ = some v := by
  unfold World.cell?; simp only [h]; exact hv
theorem row_free {W : World} {B i : Nat} {cs : Array Value} {t : TypeId} (h : W.heap[B]? = some (.cells cs t (0, 0))) : W.frozen? ⟨B, i, none⟩ = false := by
  unfold World.frozen?; simp only [h]; simp
theorem belowX_b {R D : Nat} {w1 : World} (hD : D ≤ w1.heap.size) (W : World) (l : Nat) (o o' : Obj) (hl : w1.heap.size ≤ l) (_ : W.heap[l]? = some o) (_ : o.isCells = false) (_ : o.isWalk = false) : BelowX R D W (W.putObj l o') := by
  have g := grownBy_putObj' W l o'
  refine ⟨g.os, g.tape, g.output, g.size, fun k hk _ => World.putObj_heap_other (by omega)⟩
theorem belowX_own {β : Type} {R D : Nat} {w1 : World} (hD : D ≤ w1.heap.size) : OwnFrom w1.heap.size (fun (_ : β) W => BelowX R D w1 W) := by
  intro s W W' row hs hg hr
  refine hs.trans ⟨hg.os, hg.tape, hg.output, hg.size, fun k hk _ => hg.block k (Nat.lt_of_lt_of_le (Nat.lt_of_lt_of_le hk hD) hs.size) (fun e => ?_)⟩
  have := (hr k e.symm).1; omega
theorem cells_own {β : Type} {B : Nat} (k : β → Nat) (c : β → Array Value) (t : TypeId) : OwnFrom B (fun s W => W.heap[k s]? = some (.cells (c s) t (0, 0))) := by
  intro s W W' row hs hg hr
  refine (hg.block _ (lt_of_block hs) (fun e => ?_)).trans hs
  obtain ⟨_, o, ho, hc⟩ := hr _ e.symm
  rw [hs] at ho; cases ho; cases hc
/-- The best one so far. -/
def curOf (T : List (List UInt8)) (m : Nat) (pre : List GIt) : List UInt8 := (pre.map (·.1)).foldl (fun b x => upd b (cand T m x)) []
theorem curOf_snoc (T : List (List UInt8)) (m : Nat) (pre : List GIt) (x : GIt) : curOf T m (pre ++ [x]) = upd (curOf T m pre) (cand T m x.1) := by simp [curOf]
theorem curOf_len {T : List (List UInt8)} {m M : Nat} (pre : List GIt) (hT : ∀ s ∈ T, s.length ≤ M) : (curOf T m pre).length ≤ M + 51 := by
  refine fold_len _ _ (fun x hx => ?_) (by simp)
  obtain ⟨y, _, rfl⟩ := List.mem_map.1 hx
  exact cand_len y.2 hT
theorem bests_drop {l : List Int} {i : Nat} (h : i < l.length) (ys : List GIt) (hys : ys.map (·.1) = itemsL (l.drop i)) : bests (l.drop i) = curOf (bests (l.drop (i + 1))) (l.length - i) ys :: bests (l.drop (i + 1)) := by
  have e : l.drop i = l[i] :: l.drop (i + 1) := List.drop_eq_getElem_cons h
  unfold curOf
  rw [hys, e, bests]
  congr 1
  rw [show (l.drop (i + 1)).length + 1 = l.length - i by rw [List.length_drop]; omega]
theorem at0_drop (l : List Int) (i j : Nat) : at0 (l.drop i) j = at0 l (i + j) := by unfold at0; rw [List.getElem?_drop]

set_option maxRecDepth 100000 in
set_option maxHeartbeats 4000000 in
theorem canonical_in (n g off cap : Nat) (h3 : 3 ≤ n) (l : List Int) (w : World) (he : Env w) (hl0 : 0 < l.length) (hl5 : l.length ≤ 500) (hcap : l.length ≤ cap) (hrg : ∀ n ∈ l, 0 ≤ n ∧ n ≤ 9999) (hg : g < w.heap.size)
    (hn : ∀ j, j < l.length → w.cell? ⟨g, off + j, none⟩ = some (.int .i64 (at0 l j))) :
    CallsIn Fence.wide n Tryz.prog 54 #[.slice (some ⟨g, off, none⟩) l.length cap] w (CanonPost l w) := by
  refine callsIn_of_wp_marks Tryz.func54 rfl trivial ?_ rfl
  simp only [Tryz.ntmps54, List.size_toArray, List.length_cons, List.length_nil, Nat.reduceAdd, Nat.reduceSub, Array.replicate_succ, Array.replicate_zero, List.push_toArray, List.append_toArray, List.nil_append, List.cons_append]
  have hwf : ∀ f, Fence.wide.fn f := fun _ => trivial
  have hwd : Fence.wide.depth.isSome = false := rfl
  have hmk := fun W => run_make_row' (P := Tryz.prog) 58 9 (.string ⟨#[]⟩) 16 Tryz.underlying58 info_string rfl .i64 .i64 (l.length + 1) (by omega) (by omega) W
  rw [show ((l.length + 1 : Nat) : Int) = (l.length : Int) + 1 by omega] at hmk
  have HE := Lib.hid he; have HN := Lib.hid hn; have HRG := Lib.hid hrg; clear he hn hrg
  gi_wp2_with fail
  clear hmk
  refine wpIn_loop_ghost_k (fun k a W => ∃ (Bi : Nat) (ds : List Nat) (u5 u6 u7 u8 u9 u10 u11 u12 u13 u14 u15 u16 u17 u18 u19 u20 u21 u22 u23 u24 u25 u26 u27 u28 u29 u30 u31 u32 u33 u34 u35 u36 u37 u38 u39 u40 u41 u42 u43 u44 u45 u46 u47 u48 u49 u50 u51 u52 u53 u54 u55 u56 u57 u58 u59 u60 u61 u62 : Value), a = { tmps := #[.slice (some ⟨g, off, none⟩) l.length cap, .pointer (some ⟨w.heap.size, 0, none⟩), .string ⟨#[]⟩, .pointer (some ⟨w.heap.size + 1 + 1, 0, none⟩), .pointer (some ⟨Bi, 0, none⟩), u5, u6, u7, u8, u9, u10, u11, u12, u13, u14, u15, u16, u17, u18, u19, u20, u21, u22, u23, u24, u25, u26, u27, u28, u29, u30, u31, u32, u33, u34, u35, u36, u37, u38, u39, u40, u41, u42, u43, u44, u45, u46, u47, u48, u49, u50, u51, u52, u53, u54, u55, u56, u57, u58, u59, u60, u61, u62], defers := ds.map markOf } ∧ CInv w g off cap l k Bi ds W) l.length ?start ?round
  case start =>
    refine ⟨w.heap.size + 1 + 1 + 1, [], _, _, _, _, _, _, _, _, _, _, _, _, _, _, _, _, _, _, _, _, _, _, _, _, _, _, _, _, _, _, _, _, _, _, _, _, _, _, _, _, _, _, _, _, _, _, _, _, _, _, _, _, _, _, _, _, _, _, rfl, ?_⟩
    have s1 : ∀ (o1 : Obj), (w.alloc o1).heap.size = w.heap.size + 1 := fun _ => by simp
    have s2 : ∀ (o1 o2 : Obj), ((w.alloc o1).alloc o2).heap.size = w.heap.size + 1 + 1 := fun _ _ => by simp
    have s3 : ∀ (o1 o2 o3 : Obj), (((w.alloc o1).alloc o2).alloc o3).heap.size = w.heap.size + 1 + 1 + 1 := fun _ _ _ => by simp
    have hb4 : ∀ (o1 o2 o3 o4 : Obj), Below w.heap.size w ((((w.alloc o1).alloc o2).alloc o3).alloc o4) := fun o1 o2 o3 o4 => ((((Below.refl _ _).alloc (Nat.le_refl _) _).alloc (by simp) _).alloc (by simp; omega) _).alloc (by simp; omega) _
    refine ⟨Nat.le_refl _, HE.out.below (hb4 _ _ _ _), hb4 _ _ _ _, ?_, ?_, ?_, ?_, by omega, by simp, by simp⟩
    · rw [Below.heap_alloc _ _ _ (by rw [s3]; omega), Below.heap_alloc _ _ _ (by rw [s2]; omega), Below.heap_alloc _ _ _ (by rw [s1]; omega)]; exact heap_alloc_new _ _
    · rw [Below.heap_alloc _ _ _ (by rw [s3]; omega), Below.heap_alloc _ _ _ (by rw [s2]; omega), List.drop_length, show bests [] = List.replicate 1 [] from rfl, List.replicate_append_replicate, rowC_rep]
      have := heap_alloc_new (w.alloc (.cells #[.slice (some ⟨g, off, none⟩) l.length cap] 31)) (.cells (madeCells #[.string ⟨#[]⟩] (l.length + 1)) 9)
      rw [s1] at this; exact this
    · rw [Below.heap_alloc _ _ _ (by rw [s3]; omega)]
      have := heap_alloc_new ((w.alloc (.cells #[.slice (some ⟨g, off, none⟩) l.length cap] 31)).alloc (.cells (madeCells #[.string ⟨#[]⟩] (l.length + 1)) 9)) (.cells #[.slice (some ⟨w.heap.size + 1, 0, none⟩) (l.length + 1) (l.length + 1)] 58)
      rw [s2] at this; exact this
    · have := heap_alloc_new (((w.alloc (.cells #[.slice (some ⟨g, off, none⟩) l.length cap] 31)).alloc (.cells (madeCells #[.string ⟨#[]⟩] (l.length + 1)) 9)).alloc (.cells #[.slice (some ⟨w.heap.size + 1, 0, none⟩) (l.length + 1) (l.length + 1)] 58)) (.cells #[.int .i64 ((l.length : Int) - 1)] 3)
      rw [s3] at this; exact this
  case round =>
    rintro k a W ⟨Bi, ds, u5, u6, u7, u8, u9, u10, u11, u12, u13, u14, u15, u16, u17, u18, u19, u20, u21, u22, u23, u24, u25, u26, u27, u28, u29, u30, u31, u32, u33, u34, u35, u36, u37, u38, u39, u40, u41, u42, u43, u44, u45, u46, u47, u48, u49, u50, u51, u52, u53, u54, u55, u56, u57, u58, u59, u60, u61, u62, rfl, hinv⟩ J K hJ hK
    have HV := Lib.hid hinv; clear hinv
    have HJ := Lib.hid hJ; clear hJ
    have ci := cell_of_one HV.out.ibox
    have cl := cell_of_one HV.out.lbox
    have cb := cell_of_one HV.out.bbox
    by_cases hk : k = 0
    · subst hk
      obtain ⟨c0, T, hbl, hcl⟩ : ∃ c0 T, bests l = c0 :: T ∧ canonL l = c0 := by
        cases l with
        | nil => exact absurd hl0 (Nat.lt_irrefl _)
        | cons a r => exact ⟨_, _, rfl, rfl⟩
      have hrow := HV.out.row
      rw [List.drop_zero, List.replicate_zero, List.nil_append, hbl] at hrow
      have kr : W.cell? ⟨w.heap.size + 1, 0, none⟩ = some (.string ⟨c0.toArray⟩) := row_cell hrow (rowC_get 0 c0 T)
      have HCL := Lib.hid hcl
      clear hrow hbl hcl
      gi_wp2
      refine leaves_marks w.heap.size w ds _ HV.out.marks HV.out.nodup HV.out.below (fun W' hb' => ?_)
      exact ⟨_, results_tmp rfl _ _ _, by rw [HCL.out]; rfl, hb'⟩
    · obtain ⟨i, rfl⟩ : ∃ i, k = i + 1 := ⟨k - 1, by omega⟩
      rw [show ((i + 1 : Nat) : Int) - 1 = (i : Int) by omega] at ci
      have hil : i < l.length := by have := HV.out.le; omega
      have hWi := HV.out.hBi
      have hBW : Bi < W.heap.size := lt_of_block HV.out.ibox
      have hb1 : Below W.heap.size W (W.alloc (.cells #[.slice (some ⟨g, off + i, none⟩) (l.length - i) (cap - i)] 31)) := (Below.refl _ _).alloc (Nat.le_refl _) _
      gi_wp2_with (gi_at_call 78; refine (callsIn_wide.2 (items_any _ _ _ _)).mono ?_; rintro e w1 ⟨rfl, rfl⟩)
      have hlen : (l.drop i).length = l.length - i := List.length_drop
      have hw9 := HE.out.size
      have hreads : Reads (w.heap.size + 1) (W.heap.size + 1) W.heap.size g (off + i) (l.drop i) (cap - i) (W.alloc (.cells #[.slice (some ⟨g, off + i, none⟩) (l.length - i) (cap - i)] 31)) := by
        refine ⟨HV.out.env.below hb1, by simp, by rw [hlen]; exact heap_alloc_new _ _, ?_⟩
        intro j hj
        rw [hlen] at hj
        rw [hb1.cell (p := ⟨g, off + i + j, none⟩) (Nat.lt_of_lt_of_le hg HV.out.below.size), HV.out.below.cell (p := ⟨g, off + i + j, none⟩) hg, at0_drop, show off + i + j = off + (i + j) by omega]
        exact HN.out (i + j) (by omega)
      have hstops := items_stops (n - 1) (w.heap.size + 1) (W.heap.size + 1) W.heap.size g (off + i) (cap - i) (l.drop i) (by omega) (by omega) (fun k => by rw [at0_drop]; exact at0_range HRG.out _) (by omega) (by omega) ⟨by omega, by omega⟩ ⟨by have := HV.out.below.size; omega, by omega⟩ _ (by simp) hreads
      obtain ⟨w1, hw1⟩ : ∃ w1, W.alloc (.cells #[.slice (some ⟨g, off + i, none⟩) (l.length - i) (cap - i)] 31) = w1 := ⟨_, rfl⟩
      have hz1 : w1.heap.size = W.heap.size + 1 := by rw [← hw1]; simp
      have hT : ∀ s ∈ bests (l.drop (i + 1)), s.length ≤ 25500 := by
        intro s hs
        have := bests_len (l.drop (i + 1)) (by rw [List.length_drop]; omega) (fun n hn => HRG.out n (List.mem_of_mem_drop hn)) s hs
        rw [List.length_drop] at this; omega
      have hTl : (bests (l.drop (i + 1))).length = l.length - i := by rw [bests_length, List.length_drop]; omega
      have hrow1 : w1.heap[w.heap.size + 1]? = some (.cells (rowC (List.replicate i [] ++ [] :: bests (l.drop (i + 1)))) 9 (0, 0)) := by
        rw [← hw1, hb1.block _ (by omega), HV.out.row, List.replicate_succ', List.append_assoc]; rfl
      rw [hw1] at hb1 hreads hstops ⊢
      refine wpIn_rangeFunc_ownH rfl (by omega) (gf := 103) (lb := #[.pointer (some ⟨W.heap.size, 0, none⟩)]) rfl trivial (enters_of Tryz.func103 (by kernel_rfl) rfl) hstops BelowX.trans (belowX_b (by omega)) (Below.refl _ _) (fun _ => rfl)
        (fun pre W2 => BelowX (w.heap.size + 1) (W.heap.size + 1) w1 W2 ∧ W2.heap[w.heap.size + 1]? = some (.cells (rowC (List.replicate i [] ++ curOf (bests (l.drop (i + 1))) (l.length - i) pre :: bests (l.drop (i + 1)))) 9 (0, 0)))
        (fun _ _ _ => False)
        (OwnFrom.and (belowX_own (by omega)) (cells_own (fun _ => w.heap.size + 1) (fun pre => rowC (List.replicate i [] ++ curOf (bests (l.drop (i + 1))) (l.length - i) pre :: bests (l.drop (i + 1)))) 9))
        (fun _ _ _ _ _ hs _ _ => hs)
        ⟨BelowX.refl _ _ _, hrow1⟩
        (fun x a' W2 => ∃ Bx : Nat, W.heap.size + 1 ≤ Bx ∧ W2.heap[Bx]? = some (.cells #[.string ⟨x.1.text.toArray⟩, .int .i64 x.1.count] 108 (0, 0)) ∧ a' = { tmps := #[.slice (some ⟨g, off, none⟩) l.length cap, .pointer (some ⟨w.heap.size, 0, none⟩), .string ⟨#[]⟩, .pointer (some ⟨w.heap.size + 1 + 1, 0, none⟩), .pointer (some ⟨Bi, 0, none⟩), .pointer (some ⟨Bx, 0, none⟩), u6, u7, u8, u9, u10, u11, u12, u13, .int .i64 i, .bool true, u16, u17, .slice (some ⟨g, off, none⟩) l.length cap, .int .i64 i, .slice (some ⟨g, off + i, none⟩) (l.length - i) (cap - i), .func (.func 103) #[] #[.pointer (some ⟨W.heap.size, 0, none⟩)], itV x.1, u23, u24, u25, u26, u27, u28, u29, u30, u31, u32, u33, u34, u35, u36, u37, u38, u39, u40, u41, u42, u43, u44, u45, u46, u47, u48, u49, u50, u51, u52, u53, u54, u55, u56, u57, u58, u59, u60, u61, u62], defers := [] })
        (fun x a' s A B row ⟨Bx, h1, h2, h3⟩ hg hr => ⟨Bx, h1, cells_own (fun _ : Unit => Bx) (fun _ => #[.string ⟨x.1.text.toArray⟩, .int .i64 x.1.count]) 108 s A B row h2 hg hr, h3⟩) ?assign ?body ?done ?stop
      case assign =>
        intro ly pre x W2 K2 hi hK2
        have hsz := hi.1.size
        have HI := Lib.hid hi; clear hi
        simp only [itV]
        gi_wp2
        refine hK2 _ _ ((KeepsOthers.alloc _ _).from _) (BelowX.of ((Below.refl _ W2).alloc (by omega) _)) ⟨HI.out.1.trans (BelowX.of ((Below.refl _ W2).alloc (by omega) _)), ?_⟩ ⟨W2.heap.size, by omega, heap_alloc_new _ _, rfl⟩
        rw [Below.heap_alloc _ _ _ (lt_of_block HI.out.2)]; exact HI.out.2
      case body =>
        rintro ly pre x a' W2 hly ⟨r, hr⟩ ⟨hbx, hrow⟩ ⟨Bx, hBx, hbox, rfl⟩ hlt
        clear hr
        have hwf2 : ∀ f, (Fence.wide.inRound ly).fn f := fun _ => trivial
        have hwd2 : (Fence.wide.inRound ly).depth.isSome = false := rfl
        have hx1 := x.2.1
        have hx2 := x.2.2.1
        have hx3 := x.2.2.2.1
        have hclen := curOf_len (m := l.length - i) pre hT
        have hsn := curOf_snoc (bests (l.drop (i + 1))) (l.length - i) pre x
        have hcand : cand (bests (l.drop (i + 1))) (l.length - i) x.1 = x.1.text ++ (if x.1.count < l.length - i then 44 :: (bests (l.drop (i + 1)))[x.1.count - 1]?.getD [] else []) := rfl
        have kl : W2.cell? ⟨w.heap.size, 0, none⟩ = some (.slice (some ⟨g, off, none⟩) l.length cap) := (World.cell?_of_block (w := w1) (hbx.block w.heap.size (by omega) (by omega))).trans ((hb1.cell (p := ⟨w.heap.size, 0, none⟩) (by show w.heap.size < W.heap.size; omega)).trans cl)
        have kb : W2.cell? ⟨w.heap.size + 1 + 1, 0, none⟩ = some (.slice (some ⟨w.heap.size + 1, 0, none⟩) (l.length + 1) (l.length + 1)) := (World.cell?_of_block (w := w1) (hbx.block (w.heap.size + 1 + 1) (by omega) (by omega))).trans ((hb1.cell (p := ⟨w.heap.size + 1 + 1, 0, none⟩) (by show w.heap.size + 1 + 1 < W.heap.size; omega)).trans cb)
        have ki : W2.cell? ⟨Bi, 0, none⟩ = some (.int .i64 i) := (World.cell?_of_block (w := w1) (hbx.block Bi (by omega) (by omega))).trans ((hb1.cell (p := ⟨Bi, 0, none⟩) hBW).trans ci)
        have kt : W2.cell? ⟨Bx, 0, none⟩ = some (.string ⟨x.1.text.toArray⟩) := row_cell hbox rfl
        have kc : W2.cell? ⟨Bx, 1, none⟩ = some (.int .i64 x.1.count) := row_cell hbox rfl
        have kr : W2.cell? ⟨w.heap.size + 1, i, none⟩ = some (.string ⟨(curOf (bests (l.drop (i + 1))) (l.length - i) pre).toArray⟩) := row_cell hrow (rowC_get _ _ _)
        have kf : W2.frozen? ⟨w.heap.size + 1, i, none⟩ = false := row_free hrow
        have kj : x.1.count < l.length - i → W2.cell? ⟨w.heap.size + 1, i + x.1.count, none⟩ = some (.string ⟨((bests (l.drop (i + 1)))[x.1.count - 1]?.getD []).toArray⟩) := fun h => row_cell hrow (rowC_behind _ _ _ _ hx1 (by omega))
        have hjl : ((bests (l.drop (i + 1)))[x.1.count - 1]?.getD []).length ≤ 25500 := by
          cases hq : (bests (l.drop (i + 1)))[x.1.count - 1]? with
          | none => simp
          | some q => exact hT q (List.mem_of_getElem? hq)
        generalize (bests (l.drop (i + 1)))[x.1.count - 1]?.getD [] = tj at kj hjl hcand
        rw [hcand] at hsn
        clear hcand
        generalize hcu : curOf (bests (l.drop (i + 1))) (l.length - i) pre = cu at kr hclen hsn hrow
        obtain ⟨⟨xt, xc⟩, hxg⟩ := x
        simp only at kt kc kj hsn hx1 hx2 hx3 hbox ⊢
        have hrow' := hrow
        have HROW := Lib.hid hrow; have HBX := Lib.hid hbx
        clear hrow hrow' hbx hcu hbox hstops hreads hrow1 hT hTl hlen hw9
        simp only [itV]
        by_cases hcnt : xc < l.length - i
        · have kj' := kj hcnt
          rw [if_pos hcnt] at hsn
          have HSN := Lib.hid hsn
          have hcnt' : (i : Int) + xc < l.length := by omega
          clear hsn kj hcnt
          have hsl : (⟨xt.toArray⟩ ++ (⟨#[44]⟩ ++ ⟨tj.toArray⟩) : ByteArray).data.toList = xt ++ 44 :: tj := by simp
          have hsb : (⟨xt.toArray⟩ ++ (⟨#[44]⟩ ++ ⟨tj.toArray⟩) : ByteArray) = ⟨(xt ++ 44 :: tj).toArray⟩ := ba_eq (by simp)
          have HSB := Lib.hid hsb
          cases cu with
          | nil =>
            clear hsl hsb hclen
            gi_wp2
            refine ⟨(KeepsOthers.setCell _ _ _).from _, ?_, ?_, ?_⟩
            · exact ⟨rfl, rfl, rfl, by simp [World.setCell], fun k _ hk => Below.heap_setCell _ _ _ _ hk⟩
            · exact HBX.out.trans ⟨rfl, rfl, rfl, by simp [World.setCell], fun k _ hk => Below.heap_setCell _ _ _ _ hk⟩
            · rw [HSN.out, heap_setCell_cells _ HROW.out, HSB.out, rowC_set]; rfl
          | cons c0 cr =>
            have cB := fun W => before_any (⟨xt.toArray⟩ ++ (⟨#[44]⟩ ++ ⟨tj.toArray⟩)) ⟨(c0 :: cr).toArray⟩ W
            rw [hsl] at cB
            have hu : upd (c0 :: cr) (xt ++ 44 :: tj) = if beforeB (xt ++ 44 :: tj) (c0 :: cr) = true then (xt ++ 44 :: tj) else c0 :: cr := by unfold upd; simp
            rw [show (⟨(c0 :: cr).toArray⟩ : ByteArray).data.toList = c0 :: cr by simp] at cB
            cases hbf : beforeB (xt ++ 44 :: tj) (c0 :: cr)
            · rw [hbf] at cB hu
              have CB := Lib.hid cB; have HU := Lib.hid hu
              clear cB hu hsl hsb hbf
              gi_wp2_with (gi_at_call 79; refine (CallsIn.inRound ly (callsIn_wide.2 (CB.out _))).mono ?_; rintro e w4 ⟨rfl, rfl⟩)
              refine ⟨KeepsFrom.refl _ _, BelowX.refl _ _ _, HBX.out, ?_⟩
              rw [HSN.out, HU.out]; exact HROW.out
            · rw [hbf] at cB hu
              have CB := Lib.hid cB; have HU := Lib.hid hu
              clear cB hu hsl hsb hbf
              gi_wp2_with (gi_at_call 79; refine (CallsIn.inRound ly (callsIn_wide.2 (CB.out _))).mono ?_; rintro e w4 ⟨rfl, rfl⟩)
              refine ⟨(KeepsOthers.setCell _ _ _).from _, ?_, ?_, ?_⟩
              · exact ⟨rfl, rfl, rfl, by simp [World.setCell], fun k _ hk => Below.heap_setCell _ _ _ _ hk⟩
              · exact HBX.out.trans ⟨rfl, rfl, rfl, by simp [World.setCell], fun k _ hk => Below.heap_setCell _ _ _ _ hk⟩
              · rw [HSN.out, HU.out, heap_setCell_cells _ HROW.out, HSB.out, rowC_set]; rfl
        · rw [if_neg hcnt, List.append_nil] at hsn
          have HSN := Lib.hid hsn
          have hcnt' : ¬ (i : Int) + xc < l.length := by omega
          clear hsn kj hcnt
          have hsl : (⟨xt.toArray⟩ : ByteArray).data.toList = xt := by simp
          have hsb : (⟨xt.toArray⟩ : ByteArray) = ⟨(xt).toArray⟩ := ba_eq (by simp)
          have HSB := Lib.hid hsb
          cases cu with
          | nil =>
            clear hsl hsb hclen
            gi_wp2
            refine ⟨(KeepsOthers.setCell _ _ _).from _, ?_, ?_, ?_⟩
            · exact ⟨rfl, rfl, rfl, by simp [World.setCell], fun k _ hk => Below.heap_setCell _ _ _ _ hk⟩
            · exact HBX.out.trans ⟨rfl, rfl, rfl, by simp [World.setCell], fun k _ hk => Below.heap_setCell _ _ _ _ hk⟩
            · rw [HSN.out, heap_setCell_cells _ HROW.out, rowC_set]; rfl
          | cons c0 cr =>
            have cB := fun W => before_any (⟨xt.toArray⟩) ⟨(c0 :: cr).toArray⟩ W
            rw [hsl] at cB
            have hu : upd (c0 :: cr) (xt) = if beforeB (xt) (c0 :: cr) = true then (xt) else c0 :: cr := by unfold upd; simp
            rw [show (⟨(c0 :: cr).toArray⟩ : ByteArray).data.toList = c0 :: cr by simp] at cB
            cases hbf : beforeB (xt) (c0 :: cr)
            · rw [hbf] at cB hu
              have CB := Lib.hid cB; have HU := Lib.hid hu
              clear cB hu hsl hsb hbf
              gi_wp2_with (gi_at_call 79; refine (CallsIn.inRound ly (callsIn_wide.2 (CB.out _))).mono ?_; rintro e w4 ⟨rfl, rfl⟩)
              refine ⟨KeepsFrom.refl _ _, BelowX.refl _ _ _, HBX.out, ?_⟩
              rw [HSN.out, HU.out]; exact HROW.out
            · rw [hbf] at cB hu
              have CB := Lib.hid cB; have HU := Lib.hid hu
              clear cB hu hsl hsb hbf
              gi_wp2_with (gi_at_call 79; refine (CallsIn.inRound ly (callsIn_wide.2 (CB.out _))).mono ?_; rintro e w4 ⟨rfl, rfl⟩)
              refine ⟨(KeepsOthers.setCell _ _ _).from _, ?_, ?_, ?_⟩
              · exact ⟨rfl, rfl, rfl, by simp [World.setCell], fun k _ hk => Below.heap_setCell _ _ _ _ hk⟩
              · exact HBX.out.trans ⟨rfl, rfl, rfl, by simp [World.setCell], fun k _ hk => Below.heap_setCell _ _ _ _ hk⟩
              · rw [HSN.out, HU.out, heap_setCell_cells _ HROW.out, rowC_set]; rfl
      case done =>
        rintro D' ys W2 hD' hys ⟨hbx, hrow⟩ hmark
        have hys' : ys.map (·.1) = itemsL (l.drop i) := hys
        have hbd := bests_drop hil ys hys'
        have ki : W2.cell? ⟨Bi, 0, none⟩ = some (.int .i64 i) := (World.cell?_of_block (w := w1) (hbx.block Bi (by omega) (by omega))).trans ((hb1.cell (p := ⟨Bi, 0, none⟩) hBW).trans ci)
        have hrow2 : W2.heap[w.heap.size + 1]? = some (.cells (rowC (List.replicate i [] ++ bests (l.drop i))) 9 (0, 0)) := by rw [hbd]; exact hrow
        have hz2 := hbx.size
        have hD2 := (Array.getElem?_eq_some_iff.1 hmark).1
        have hgg : ∀ q, q < W.heap.size → q ≠ w.heap.size + 1 → W2.heap[q]? = W.heap[q]? := fun q h1 h2 => (hbx.block q (by omega) h2).trans (hb1.block q h1)
        have HR2 := Lib.hid hrow2; have HGG := Lib.hid hgg; have HM := Lib.hid hmark; have HBX := Lib.hid hbx
        clear hrow hrow2 hbd hys hys' hmark hgg hbx hstops hreads hrow1 hT hTl cl cb
        gi_wp2
        have hax : Below W2.heap.size W2 (W2.alloc (.cells #[.int .i64 ((i : Int) - 1)] 3)) := (Below.refl _ _).alloc (Nat.le_refl _) _
        have hww : Below w.heap.size w1 W2 := ⟨HBX.out.os, HBX.out.tape, HBX.out.output, HBX.out.size, fun q hq => HBX.out.block q (by omega) (by omega)⟩
        have hnotR : ∀ E ∈ ds, E ≠ w.heap.size + 1 := by
          intro E hE e
          have := (HV.out.marks E hE).2
          rw [e, HV.out.row] at this; cases this
        refine Handed.intro i (by omega) (HJ.out _ _ _ ⟨W2.heap.size, D' :: ds, _, _, _, _, _, _, _, _, _, _, _, _, _, _, _, _, _, _, _, _, _, _, _, _, _, _, _, _, _, _, _, _, _, _, _, _, _, _, _, _, _, _, _, _, _, _, _, _, _, _, _, _, _, _, _, _, _, _, rfl, ?_⟩)
        refine ⟨by omega, (((HV.out.env.below hb1).belowX (by omega) (by omega) HBX.out).below hax), ?_, ?_, ?_, ?_, heap_alloc_new _ _, by omega, ?_, ?_⟩
        · exact (HV.out.below.trans ((hb1.mono (by omega)).trans hww)).trans (hax.mono (by omega))
        · rw [hax.block _ (by omega), HGG.out _ (by omega) (by omega)]; exact HV.out.lbox
        · rw [hax.block _ (by omega)]; exact HR2.out
        · rw [hax.block _ (by omega), HGG.out _ (by omega) (by omega)]; exact HV.out.bbox
        · intro E hE
          rcases List.mem_cons.1 hE with rfl | hE
          · exact ⟨by omega, (hax.block _ hD2).trans HM.out⟩
          · have hm := HV.out.marks E hE
            have hEW := (Array.getElem?_eq_some_iff.1 hm.2).1
            exact ⟨hm.1, (hax.block _ (by omega)).trans ((HGG.out _ hEW (hnotR E hE)).trans hm.2)⟩
        · refine List.nodup_cons.2 ⟨fun hE => ?_, HV.out.nodup⟩
          have hEW := (Array.getElem?_eq_some_iff.1 (HV.out.marks _ hE).2).1
          omega
      case stop =>
        rintro D' c pre W2 _ _ h _
        exact h.elim
end Go.Proofs.YtgldpdbdgjehkaaGreatDoor
