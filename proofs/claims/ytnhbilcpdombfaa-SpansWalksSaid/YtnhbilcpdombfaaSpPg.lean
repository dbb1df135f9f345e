/- spans: Pages$1, an iterator over an iterator. -/
import Derived.Test.YtnhbilcpdombfaaSpSeq
namespace Go.Proofs.Ytnhbilcpdombfaa
open Go.RowKit Go.Shelf
attribute [local go_sem] Oper.semAt_some

/-- What R says does not hang on what is no cells, nor on memory that was made later. -/
structure StabG (R : World → Nat → Prop) (D : Nat) : Prop where
  grown : ∀ W W' row, D ≤ W.heap.size → W.grownBy W' row → (∀ r, row = some r → D ≤ r ∧ ∃ o : Obj, W.heap[r]? = some o ∧ o.isCells = false) → ∀ k, R W' k ↔ R W k
theorem StabG.stab {R : World → Nat → Prop} {D : Nat} (h : StabG R D) : Stab R D := ⟨fun W W' hd hb => h.grown W W' none hd (grownBy_of_below hb none) (fun r e => by cases e)⟩
theorem cell_grown {W W' : World} {row : Option Nat} (hg : W.grownBy W' row) (hr : ∀ r, row = some r → ∃ o : Obj, W.heap[r]? = some o ∧ o.isCells = false) {a : Addr} {v : Value} (h : W.cell? a = some v) : W'.cell? a = some v := by
  refine (World.cell?_of_block (hg.block a.block (World.block_lt_of_cell? W _ h) (fun e => ?_))).trans h
  obtain ⟨o, ho, hc⟩ := hr _ e.symm
  unfold World.cell? at h
  rw [ho] at h
  cases o <;> first | (simp at h; done) | (cases hc)
theorem keepD_grown {R : World → Nat → Prop} {D : Nat} (hs : StabG R D) {W W' : World} {row : Option Nat} (hd : D ≤ W.heap.size) (hg : W.grownBy W' row) (hr : ∀ r, row = some r → D ≤ r ∧ ∃ o : Obj, W.heap[r]? = some o ∧ o.isCells = false) : KeepD R W W' := by
  have hi := hs.grown W W' row hd hg hr
  exact ⟨hg.size, fun h k hk => Nat.lt_of_lt_of_le (h k ((hi k).1 hk)) hg.size, fun k _ hk => (hi k).1 hk, fun a v h _ => cell_grown hg (fun r e => (hr r e).2) h⟩
/-- What holds between two rounds of the inner loop. -/
def PgI (R : World → Nat → Prop) (D By ly : Nat) (J : List Nat → World → Prop) (pre : List (Nat × Nat)) (W : World) : Prop :=
  J (pre.map (·.1)) W ∧ W.cell? ⟨By, 0, none⟩ = some (.func (.yield ly) #[] #[]) ∧ ¬ R W By ∧ D ≤ W.heap.size
theorem pgI_own {R : World → Nat → Prop} {D By ly B B' : Nat} {J : List Nat → World → Prop} (hs : StabG R D) (hj : OwnFrom B J) (hB : B ≤ B') (hD : D ≤ B') : OwnFrom B' (PgI R D By ly J) := by
  rintro s W W' row ⟨h1, h2, h3, h4⟩ hg hr
  have hi := hs.grown W W' row h4 hg (fun r e => ⟨Nat.le_trans hD (hr r e).1, (hr r e).2⟩)
  exact ⟨hj _ W W' row h1 hg (fun r e => ⟨Nat.le_trans hB (hr r e).1, (hr r e).2⟩), cell_grown hg (fun r e => (hr r e).2) h2, fun h => h3 ((hi _).1 h), Nat.le_trans h4 hg.size⟩
def PgX (Jx : List Nat → World → Prop) (c : Code) (pre : List (Nat × Nat)) (W : World) : Prop := c = .ret ∧ Jx (pre.map (·.1)) W
theorem pgX_own {B B' : Nat} {Jx : List Nat → World → Prop} (hj : OwnFrom B Jx) (hB : B ≤ B') (c : Code) : OwnFrom B' (PgX Jx c) := by
  rintro s W W' row ⟨h1, h2⟩ hg hr
  exact ⟨h1, hj _ W W' row h2 hg (fun r e => ⟨Nat.le_trans hB (hr r e).1, (hr r e).2⟩)⟩
theorem leaves_one {n : Nat} {P : Program} {fn : Func} {tmps : Array Value} {R : Ending → World → Prop} {D : Nat} {W : World} (hm : W.heap[D]? = some (.deferred (some []))) (h : ∀ o', LeavesInM Fence.wide n P fn tmps R [] .returning (W.putObj D o')) :
    LeavesInM Fence.wide n P fn tmps R [markOf D] .returning W := ⟨by simp, .inl ⟨D, _, rfl, run_takeDeferred hm, h _⟩⟩
set_option maxRecDepth 100000 in
set_option maxHeartbeats 4000000 in
theorem pages1_in (n : Nat) (R : World → Nat → Prop) (D Bp ly gf : Nat) (lb : Array Value) (L : List (Nat × Nat)) (hn : 3 ≤ n) (hst : StabG R D) (eg : ∀ args w, (callFunc gf args).run Try.prog w = .ok (.enter gf args) w)
    (J Jx : List Nat → World → Prop) (W : World) (hD : D ≤ W.heap.size) (hwR : ∀ k, R W k → k < W.heap.size)
    (hseq : ∀ W', Below W.heap.size W W' → SeqStopsK Fence.wide (n - 1) Try.prog gf lb spV (KeepD R) (fun ys => ys = L) (fun ys => ys <+: L) L.length W')
    (jb : OwnFrom W.heap.size J) (jx : OwnFrom W.heap.size Jx)
    (hy : ∀ pre (x : Nat) W1, J pre W1 → pre.length < L.length → YieldAt Fence.wide (n - 1) Try.prog ly #[.int .i64 (x : Int)] W1 fun e W' =>
      (e = .returned (.bool true) ∧ J (pre ++ [x]) W' ∧ KeepD R W1 W' ∧ KeepsFrom W.heap.size W1 W') ∨ (e = .returned (.bool false) ∧ Jx (pre ++ [x]) W' ∧ KeepsFrom W.heap.size W1 W'))
    (hP : W.cell? ⟨Bp, 0, none⟩ = some (.func (.func gf) #[] lb)) (h0 : J [] W) :
    CallsIn Fence.wide n Try.prog 65 #[.func (.yield ly) #[] #[], .pointer (some ⟨Bp, 0, none⟩)] W (IterPost (L.map (·.1)) J Jx) := by
  refine callsIn_of_wp_marks Try.func65 rfl trivial ?_ rfl
  simp only [Try.ntmps65, List.size_toArray, List.length_cons, List.length_nil, Nat.reduceAdd, Nat.reduceSub, Array.replicate_succ, Array.replicate_zero, List.push_toArray, List.append_toArray, List.nil_append, List.cons_append]
  have hwf : ∀ f, Fence.wide.fn f := fun _ => trivial
  have hwd : Fence.wide.depth.isSome = false := rfl
  have hbe : Below W.heap.size W (W.alloc (.cells #[.func (.yield ly) #[] #[]] 83)) := (Below.refl _ _).alloc (Nat.le_refl _) _
  have hby := heap_alloc_new W (.cells #[.func (.yield ly) #[] #[]] 83)
  have hlt := World.block_lt_of_cell? W _ hP
  have c0 := (hbe.cell hlt).trans hP
  have HJ0 := Lib.hid (jb.alloc (.cells #[.func (.yield ly) #[] #[]] 83) h0)
  have HY := Lib.hid hy; have HJB := Lib.hid jb; have HJX := Lib.hid jx; have HST := Lib.hid hst; have HSEQ := Lib.hid (hseq _ hbe)
  have HBY := Lib.hid (show (W.alloc (.cells #[.func (.yield ly) #[] #[]] 83)).cell? ⟨W.heap.size, 0, none⟩ = some (.func (.yield ly) #[] #[]) from row_cell hby rfl)
  have HNR := Lib.hid (show ¬ R (W.alloc (.cells #[.func (.yield ly) #[] #[]] 83)) W.heap.size from fun h => Nat.lt_irrefl _ (hwR _ ((hst.stab.below _ _ hD hbe _).1 h)))
  have hsz := hbe.size
  have HEG := Lib.hid eg
  clear hy jb jx hst hseq hbe hby hlt hP h0 eg
  gi_wp2
  generalize W.alloc (.cells #[.func (.yield ly) #[] #[]] 83) = wv at HJ0 HSEQ HBY HNR hsz ⊢
  obtain ⟨By, hBy⟩ : ∃ By, By = W.heap.size := ⟨_, rfl⟩
  rw [← hBy] at HBY HNR ⊢
  clear c0 hBy
  refine wpIn_rangeFunc_ownH rfl (by omega) (gf := gf) (lb := lb) rfl trivial HEG.out HSEQ.out KeepD.trans
    (fun Z l o o' hl ho hc _ => keepD_grown HST.out (by have := (Array.getElem?_eq_some_iff.1 ho).1; omega) (grownBy_putObj' Z l o') (fun r e => by cases e; exact ⟨by omega, o, ho, hc⟩)) (Below.refl _ _) (fun _ => rfl)
    (PgI R D By ly J) (PgX Jx) (pgI_own HST.out HJB.out hsz (by omega)) (fun c => pgX_own HJX.out hsz c)
    ⟨HJ0.out, HBY.out, HNR.out, by omega⟩
    (fun x a' W2 => ∃ Bx : Nat, W2.cell? ⟨Bx, 0, none⟩ = some (.int .i64 (x.1 : Int)) ∧ a' = { tmps := #[.func (.yield ly) #[] #[], .pointer (some ⟨Bp, 0, none⟩), .pointer (some ⟨By, 0, none⟩), .pointer (some ⟨Bx, 0, none⟩),
          .func (.func gf) #[] lb, .agg #[.int .i64 (x.1 : Int), .int .i64 (x.2 : Int)], undef, undef, undef, undef, undef], defers := [] })
    (fun x a' s A B row ⟨Bx, h1, h3⟩ hg hr => ⟨Bx, cell_grown hg (fun r e => (hr r e).2) h1, h3⟩) ?assign ?body ?done ?stop
  case assign =>
    intro l pre x W2 K2 hi hK2
    have HI := Lib.hid hi; clear hi
    simp only [spV]
    gi_wp2
    have hbx : Below W2.heap.size W2 (W2.alloc (.cells #[.int .i64 (x.1 : Int), .int .i64 (x.2 : Int)] 31)) := (Below.refl _ _).alloc (Nat.le_refl _) _
    exact hK2 _ _ ((KeepsOthers.alloc _ _).from _) (KeepD.of HST.out.stab HI.out.2.2.2 hbx) ((pgI_own HST.out HJB.out hsz (by omega)).alloc _ HI.out) ⟨W2.heap.size, row_cell (heap_alloc_new _ _) rfl, rfl⟩
  case body =>
    rintro l pre x a' W2 hly ⟨r, hr⟩ ⟨hj, hcy, hny, hdd⟩ ⟨Bx, hbx, rfl⟩ hlt
    clear hr
    have hwf2 : ∀ f, (Fence.wide.inRound l).fn f := fun _ => trivial
    have hwd2 : (Fence.wide.inRound l).depth.isSome = false := rfl
    obtain ⟨fn2, tmps2, assign2, body2, hyr, hY⟩ := yield_bool (yield_any (m := n - 1 - 1 - 1) (HY.out (pre.map (·.1)) x.1 W2 hj (by simpa using hlt)))
    have HMAP := Lib.hid (show (pre ++ [x]).map (·.1) = pre.map (·.1) ++ [x.1] by simp)
    have HDD := Lib.hid hdd; have HNY := Lib.hid hny; have HCY := Lib.hid hcy
    clear hj hny hdd
    gi_wp2
    refine hY.mono ?_
    clear hyr hY
    rintro e' w3 ⟨y, rfl, hpost⟩
    rcases hpost with ⟨rfl, hj2, hk2, hf2⟩ | ⟨rfl, hjx, hf2⟩
    · have HJ2 := Lib.hid hj2; have HK2 := Lib.hid hk2; have HF2 := Lib.hid hf2
      clear hj2 hk2 hf2 hcy hbx
      gi_wp2
      exact ⟨kf_mono HF2.out hsz, HK2.out, by rw [HMAP.out]; exact HJ2.out, HK2.out.cell _ _ HCY.out HNY.out, fun h => HNY.out (HK2.out.row _ (World.block_lt_of_cell? W2 _ HCY.out) h), Nat.le_trans HDD.out HK2.out.size⟩
    · have HJX2 := Lib.hid hjx; have HF2 := Lib.hid hf2
      clear hjx hf2 hcy hbx
      gi_wp2
      exact ⟨kf_mono HF2.out hsz, rfl, by rw [HMAP.out]; exact HJX2.out⟩
  case done =>
    rintro D' ys W2 hD' hys ⟨hj, _⟩ hmark
    obtain rfl : ys = L := hys
    have HJD := Lib.hid hj; have HM := Lib.hid hmark
    clear hj hmark
    gi_wp2
    refine leaves_one HM.out fun o' => ⟨_, results_none rfl _ _ _, ⟨_, rfl⟩, .inl ⟨_, rfl, ?_⟩⟩
    exact HJB.out _ W2 _ (some D') HJD.out (grownBy_putObj' W2 D' o') (fun r e => by cases e; exact ⟨by omega, _, HM.out, rfl⟩)
  case stop =>
    rintro D' c pre W2 hD' hpre ⟨rfl, hjx⟩ hmark
    have HJD := Lib.hid hjx; have HM := Lib.hid hmark
    clear hjx hmark
    gi_wp2
    refine leaves_one HM.out fun o' => ⟨_, results_none rfl _ _ _, ⟨_, rfl⟩, .inr ⟨_, hpre.map _, ?_⟩⟩
    exact HJX.out _ W2 _ (some D') HJD.out (grownBy_putObj' W2 D' o') (fun r e => by cases e; exact ⟨by omega, _, HM.out, rfl⟩)
end Go.Proofs.Ytnhbilcpdombfaa
