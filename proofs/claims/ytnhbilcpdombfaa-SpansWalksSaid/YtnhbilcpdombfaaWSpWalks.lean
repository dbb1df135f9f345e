/- The law SpansWalks, walked. -/
import Derived.Test.YtnhbilcpdombfaaSpAwake
import Derived.Test.YtnhbilcpdombfaaSpRAny
import Derived.Deep.RegionHeld3
namespace Go.Proofs.Ytnhbilcpdombfaa
open Go.RowKit Go.Shelf
attribute [local go_sem] Oper.semAt_some

theorem keep1 {W W' : World} {a : Addr} {X : Value} (hb : Below W.heap.size W W') (hS : W.cell? a = some X) : W'.cell? a = some X := (hb.cell (World.block_lt_of_cell? W _ hS)).trans hS
/-- The law's two boxes that stand from the beginning: stop, and the result. -/
structure WkS (w W : World) (stop : Int) : Prop where
  below : Below w.heap.size w W
  s5 : W.heap[w.heap.size]? = some (.cells #[.int .i64 stop] 3 (0, 0))
  s6 : W.heap[w.heap.size + 1]? = some (.cells #[.bool false] 4 (0, 0))
  lt : w.heap.size + 2 ≤ W.heap.size
theorem WkS.next {w W W' : World} {stop : Int} (h : WkS w W stop) (hb : Below W.heap.size W W') : WkS w W' stop :=
  ⟨below_next h.below hb, (hb.block _ (by have := h.lt; omega)).trans h.s5, (hb.block _ (by have := h.lt; omega)).trans h.s6, Nat.le_trans h.lt hb.size⟩
theorem wkS_new (w : World) (stop : Int) : WkS w ((w.alloc (.cells #[.int .i64 stop] 3)).alloc (.cells #[.bool false] 4)) stop := by
  obtain ⟨a1, a2, a3, a4⟩ := alloc2 w (.cells #[.int .i64 stop] 3) (.cells #[.bool false] 4)
  exact ⟨a1, a3, a4, by omega⟩
theorem setBx {S : Nat → Prop} {D : Nat} {w W : World} (h : BelowS S D w W) {B : Nat} (hB : S B) (u : Value) : BelowS S D w (W.setCell ⟨B, 0, none⟩ u) :=
  h.trans ⟨rfl, rfl, rfl, by simp [World.setCell], fun k _ hk => Below.heap_setCell _ _ _ _ (fun e => hk (e ▸ hB))⟩
theorem keep_set (W : World) (bn : Nat) (v : Value) : KeepD (fun _ k => k = bn) W (W.setCell ⟨bn, 0, none⟩ v) := by
  have hs : (W.setCell ⟨bn, 0, none⟩ v).heap.size = W.heap.size := by simp [World.setCell]
  exact ⟨by omega, fun h k hk => by rw [hs]; exact h k hk, fun _ _ h => h, fun a u hc hn => (World.cell?_of_block (w := W) (Below.heap_setCell _ _ _ _ (by simpa using hn))).trans hc⟩
/-- What holds between two rounds of the loop. -/
def WkI (S : Nat) (A : List Nat) (v7 : World) (bn : Nat) (pre : List Nat) (W : World) : Prop :=
  BelowS (fun k => k = bn) v7.heap.size v7 W ∧ W.heap[bn]? = some (.cells #[.int .i64 (pre.length : Int)] 3 (0, 0)) ∧ pre.length ≤ S ∧ pre.length ≤ A.length
theorem wkI_own (S : Nat) (A : List Nat) (v7 : World) (bn : Nat) : OwnFrom v7.heap.size (WkI S A v7 bn) :=
  OwnFrom.and (belowS_own (Nat.le_refl _)) (OwnFrom.and (cells_own (fun _ => bn) (fun pre : List Nat => #[.int .i64 (pre.length : Int)]) 3) (fun _ _ _ _ hs _ _ => hs))
/-- How the loop may be left: by a page that is none of these, or where it is to stop. -/
def WkX (S : Nat) (A : List Nat) (v7 : World) (bn : Nat) (c : Code) (pre : List Nat) (W : World) : Prop :=
  (c = .ret → ¬ pre <+: A) ∧ (c ≠ .ret → c = .exit 0 ∧ S < A.length ∧ BelowS (fun k => k = bn) v7.heap.size v7 W ∧ W.heap[bn]? = some (.cells #[.int .i64 (S : Int)] 3 (0, 0)))
theorem wkX_own (S : Nat) (A : List Nat) (v7 : World) (bn : Nat) (c : Code) : OwnFrom v7.heap.size (WkX S A v7 bn c) := by
  rintro s W W' row ⟨h1, h2⟩ hg hr
  refine ⟨h1, fun hc => ?_⟩
  obtain ⟨g1, g2, g3, g4⟩ := h2 hc
  exact ⟨g1, g2, belowS_own (β := Unit) (Nat.le_refl _) () W W' row g3 hg hr, cells_own (fun _ : Unit => bn) (fun _ => #[.int .i64 (S : Int)]) 3 () W W' row g4 hg hr⟩
set_option maxHeartbeats 8000000 in
set_option maxRecDepth 100000 in
theorem spansWalks_walk (l : List (Int × Int)) (p : Option Addr) (cap : Nat) (size stop : Int) (w : World) (h : SpsAt w p l) (hs1 : -9223372036854775808 ≤ stop) (hs2 : stop ≤ 9223372036854775807) :
    Calls Try.prog 7 #[.slice p l.length cap, .int .i64 size, .int .i64 stop] w (TruePost w) := by
  refine (callsIn_wide (n := 6)).1 ?_
  refine callsIn_of_wp_marks Try.func7 rfl trivial ?_ rfl
  simp only [Try.ntmps7, List.size_toArray, List.length_cons, List.length_nil, Nat.reduceAdd, Nat.reduceSub, Array.replicate_succ, Array.replicate_zero, List.push_toArray, List.append_toArray, List.nil_append, List.cons_append]
  have hwf : ∀ f, Fence.wide.fn f := fun _ => trivial
  have hwd : Fence.wide.depth.isSome = false := rfl
  have CA := Lib.hid (fun W => (callsIn_wide (n := 5)).2 (awake_any W)); have CL := Lib.hid (fun W => (callsIn_wide (n := 5)).2 (long_any l.length p cap W))
  have HS := Lib.hid (wkS_new w stop)
  have HLO := Lib.hid hs1; have HHI := Lib.hid hs2
  have cg := fun W (hW : Below w.heap.size w W) => (callsIn_wide (n := 5)).2 (pages_any l p cap W (h.below hW))
  have cp := fun W (hW : Below w.heap.size w W) => (callsIn_wide (n := 5)).2 (pieces_any l p cap size W (h.below hW))
  have rg := fun W (hW : Below w.heap.size w W) => rpages_any l p cap W (h.below hW)
  have rp := fun W (hW : Below w.heap.size w W) => rpieces_any l p cap size W (h.below hW)
  obtain ⟨hBo, hBl⟩ := pcR_okay l size
  have hAl := pgsR_le l
  generalize pgsR l = A at cg rg hAl
  generalize pcR l size = B at cp rp hBo hBl
  have CG := Lib.hid cg; have CP := Lib.hid cp; have RG := Lib.hid rg; have RP := Lib.hid rp; have HBO := Lib.hid hBo
  clear cg cp rg rp h hs1 hs2 hBo
  by_cases h1 : 2100 < l.length
  · have i1 : (2100 : Int) < l.length := by omega
    have f5 := (row1_cell HS.out.s5).1
    have HQ6 := Lib.hid HS.out.s6; have HBW := Lib.hid HS.out.below
    gi_wp2
    refine (CL.out _).mono ?_
    rintro e w1 ⟨rfl, rfl⟩
    gi_wp2
    refine (CA.out _).mono ?_
    rintro e w9 ⟨rfl, hb⟩
    have HBB := Lib.hid (below_next HBW.out hb)
    have hq6 := (hb.block _ (Array.getElem?_eq_some_iff.1 HQ6.out).1).trans HQ6.out
    obtain ⟨k6, f6⟩ := row1_cell hq6
    have HQ6 := Lib.hid hq6
    clear hb hq6
    gi_wp2
    have k7 := (row1_cell (set_row1 (v := .bool true) HQ6.out)).1
    refine ⟨.bool true, by simp [results, Try.results7, go_sem, k7], rfl, ?_⟩
    exact set1B HBB.out (by omega) _
  · have i1 : ¬ (2100 : Int) < l.length := by omega
    by_cases h2 : stop < 0
    · have f5 := (row1_cell HS.out.s5).1
      have HQ6 := Lib.hid HS.out.s6; have HBW := Lib.hid HS.out.below
      gi_wp2
      refine (CL.out _).mono ?_
      rintro e w1 ⟨rfl, rfl⟩
      gi_wp2
      refine (CA.out _).mono ?_
      rintro e w9 ⟨rfl, hb⟩
      have HBB := Lib.hid (below_next HBW.out hb)
      have hq6 := (hb.block _ (Array.getElem?_eq_some_iff.1 HQ6.out).1).trans HQ6.out
      obtain ⟨k6, f6⟩ := row1_cell hq6
      have HQ6 := Lib.hid hq6
      clear hb hq6
      gi_wp2
      have k7 := (row1_cell (set_row1 (v := .bool true) HQ6.out)).1
      refine ⟨.bool true, by simp [results, Try.results7, go_sem, k7], rfl, ?_⟩
      exact set1B HBB.out (by omega) _
    · have f5 := (row1_cell HS.out.s5).1
      gi_wp2
      refine (CL.out _).mono ?_
      rintro e w1 ⟨rfl, rfl⟩
      gi_wp2
      refine (CG.out _ HS.out.below).mono ?_
      rintro e w2 ⟨Bp, rfl, hb, hg⟩
      have HS := Lib.hid (HS.out.next hb); have HG := Lib.hid hg
      clear hb hg f5
      gi_wp2
      refine (CP.out _ HS.out.below).mono ?_
      rintro e w3 ⟨gf, lb, rfl, hb, hg⟩
      have HS := Lib.hid (HS.out.next hb); have HG := Lib.hid (HG.out.later hb); have HGP := Lib.hid hg
      have LP := Lib.hid ((callsIn_wide (n := 5)).2 (HG.out.lp _ (Below.refl _ _)))
      clear hb hg
      gi_wp2
      refine LP.out.mono ?_
      rintro e w4 ⟨v, rfl, hb, ho⟩
      obtain ⟨qa, ca, rfl, ha⟩ := own_pg ho
      have HS := Lib.hid (HS.out.next hb); have HG := Lib.hid (HG.out.later hb); have HGP := Lib.hid (HGP.out.later hb); have HA := Lib.hid ha
      clear hb ho ha LP
      gi_wp2
      obtain ⟨b9, hb9⟩ : ∃ b9, b9 = w4.heap.size := ⟨_, rfl⟩
      rw [← hb9]
      have hbe : Below w4.heap.size w4 (w4.alloc (.cells #[.slice qa A.length ca] 48)) := (Below.refl _ _).alloc (Nat.le_refl _) _
      have h9 := heap_alloc_new w4 (.cells #[.slice qa A.length ca] 48)
      rw [← hb9] at h9
      have HS := Lib.hid (HS.out.next hbe); have HG := Lib.hid (HG.out.later hbe); have HGP := Lib.hid (HGP.out.later hbe); have HA := Lib.hid (HA.out.below hbe); have H9 := Lib.hid h9
      generalize w4.alloc (.cells #[.slice qa A.length ca] 48) = w5 at HS HG HGP HA H9 ⊢
      clear hbe h9 hb9
      have LP := Lib.hid ((callsIn_wide (n := 5)).2 (HGP.out.lp _ (Below.refl _ _)))
      refine LP.out.mono ?_
      rintro e w6 ⟨v, rfl, hb, ho⟩
      obtain ⟨qb, cb, rfl, hq⟩ := own_sps ho HBO.out (by simp only; omega)
      have HS := Lib.hid (HS.out.next hb); have HG := Lib.hid (HG.out.later hb); have HGP := Lib.hid (HGP.out.later hb); have HA := Lib.hid (HA.out.below hb); have HQ := Lib.hid hq
      have H9 := Lib.hid ((hb.block _ (Array.getElem?_eq_some_iff.1 H9.out).1).trans H9.out)
      have LP := Lib.hid ((callsIn_wide (n := 5)).2 (HG.out.lp _ (Below.refl _ _)))
      clear hb ho hq
      gi_wp2
      refine LP.out.mono ?_
      rintro e w7 ⟨v, rfl, hb, ho⟩
      obtain ⟨qc, cc, rfl, hq⟩ := own_pg ho
      have HS := Lib.hid (HS.out.next hb); have HG := Lib.hid (HG.out.later hb); have HGP := Lib.hid (HGP.out.later hb); have HA := Lib.hid (HA.out.below hb); have HQ := Lib.hid (HQ.out.below hb); have HC := Lib.hid hq
      have H9 := Lib.hid ((hb.block _ (Array.getElem?_eq_some_iff.1 H9.out).1).trans H9.out)
      have LP := Lib.hid ((callsIn_wide (n := 5)).2 (HGP.out.lp _ (Below.refl _ _)))
      clear hb ho hq
      gi_wp2
      refine LP.out.mono ?_
      rintro e w8 ⟨v, rfl, hb, ho⟩
      obtain ⟨qd, cd, rfl, hq⟩ := own_sps ho HBO.out (by simp only; omega)
      have HS := Lib.hid (HS.out.next hb); have HG := Lib.hid (HG.out.later hb); have HA := Lib.hid (HA.out.below hb); have HQ := Lib.hid (HQ.out.below hb); have HC := Lib.hid (HC.out.below hb); have HD := Lib.hid hq
      have H9 := Lib.hid ((hb.block _ (Array.getElem?_eq_some_iff.1 H9.out).1).trans H9.out)
      clear hb ho hq LP HGP CG CP
      simp only
      gi_wp2
      have HS := Lib.hid (HS.out.next (drewOne _ _)); have HG := Lib.hid (HG.out.later (drewOne _ _)); have HA := Lib.hid (HA.out.below (drewOne _ _)); have HQ := Lib.hid (HQ.out.below (drewOne _ _)); have HC := Lib.hid (HC.out.below (drewOne _ _)); have HD := Lib.hid (HD.out.below (drewOne _ _))
      have s0 : w8.drew.cell? ⟨b9, 0, none⟩ = some (.slice qa A.length ca) := (row1_cell H9.out).1
      have H9 := Lib.hid (show w8.drew.heap[b9]? = some (.cells #[.slice qa A.length ca] 48 (0, 0)) from H9.out)
      refine wpIn_wide.2 ?_
      go_region_held3 (fun W => W.cell? ⟨b9, 0, none⟩ = some (.slice qa A.length ca)) (first | exact s0 | exact keep1 (by assumption) (by assumption)) (first
        | (go_at_call 41; refine (RG.out _ HS.out.below).mono ?_; rintro e v1 ⟨v, rfl, hb, ho⟩; obtain ⟨qe, ce, rfl, hq⟩ := own_pg ho
           have HS := Lib.hid (HS.out.next hb); have HG := Lib.hid (HG.out.later hb); have HA := Lib.hid (HA.out.below hb); have HQ := Lib.hid (HQ.out.below hb); have HC := Lib.hid (HC.out.below hb); have HD := Lib.hid (HD.out.below hb); have H9 := Lib.hid ((hb.block _ (Array.getElem?_eq_some_iff.1 H9.out).1).trans H9.out)
           have HE := Lib.hid hq
           have I1 := Lib.hid (ints_any A qa qe ca ce v1 HA.out HE.out hAl)
           clear ho hq RG)
        | (go_at_call 40; refine (I1.out).mono ?_; rintro e v2 ⟨rfl, hb⟩
           have HS := Lib.hid (HS.out.next hb); have HG := Lib.hid (HG.out.later hb); have HA := Lib.hid (HA.out.below hb); have HQ := Lib.hid (HQ.out.below hb); have HC := Lib.hid (HC.out.below hb); have HD := Lib.hid (HD.out.below hb); have H9 := Lib.hid ((hb.block _ (Array.getElem?_eq_some_iff.1 H9.out).1).trans H9.out)
           have I2 := Lib.hid (ints_any A qa qc ca cc v2 HA.out HC.out hAl)
           clear I1)
        | (go_at_call 40; refine (I2.out).mono ?_; rintro e v3 ⟨rfl, hb⟩
           have HS := Lib.hid (HS.out.next hb); have HG := Lib.hid (HG.out.later hb); have HA := Lib.hid (HA.out.below hb); have HQ := Lib.hid (HQ.out.below hb); have HC := Lib.hid (HC.out.below hb); have HD := Lib.hid (HD.out.below hb); have H9 := Lib.hid ((hb.block _ (Array.getElem?_eq_some_iff.1 H9.out).1).trans H9.out)
           clear I2)
        | (go_at_call 42; refine (RP.out _ HS.out.below).mono ?_; rintro e v4 ⟨v, rfl, hb, ho⟩; obtain ⟨qf, cf, rfl, hq⟩ := own_sps ho HBO.out (by omega)
           have HS := Lib.hid (HS.out.next hb); have HG := Lib.hid (HG.out.later hb); have HA := Lib.hid (HA.out.below hb); have HQ := Lib.hid (HQ.out.below hb); have HC := Lib.hid (HC.out.below hb); have HD := Lib.hid (HD.out.below hb); have H9 := Lib.hid ((hb.block _ (Array.getElem?_eq_some_iff.1 H9.out).1).trans H9.out)
           have HF := Lib.hid hq
           have S1 := Lib.hid (c_same B B.length rfl qb qf cb cf v4 HQ.out HF.out)
           clear ho hq RP)
        | (go_at_call 17; refine (S1.out).mono ?_; rintro e v5 ⟨rfl, hb⟩
           have HS := Lib.hid (HS.out.next hb); have HG := Lib.hid (HG.out.later hb); have HA := Lib.hid (HA.out.below hb); have HQ := Lib.hid (HQ.out.below hb); have HC := Lib.hid (HC.out.below hb); have HD := Lib.hid (HD.out.below hb); have H9 := Lib.hid ((hb.block _ (Array.getElem?_eq_some_iff.1 H9.out).1).trans H9.out)
           have S2 := Lib.hid (c_same B B.length rfl qb qd cb cd v5 HQ.out HD.out)
           clear S1)
        | (go_at_call 17; refine (S2.out).mono ?_; rintro e v6 ⟨rfl, hb⟩
           have HS := Lib.hid (HS.out.next hb); have HG := Lib.hid (HG.out.later hb); have HA := Lib.hid (HA.out.below hb); have HQ := Lib.hid (HQ.out.below hb); have HC := Lib.hid (HC.out.below hb); have HD := Lib.hid (HD.out.below hb); have H9 := Lib.hid ((hb.block _ (Array.getElem?_eq_some_iff.1 H9.out).1).trans H9.out)
           clear S2))
      clear s0 hb
      gi_wp2
      obtain ⟨bn, hbn⟩ : ∃ bn, bn = v6.heap.size := ⟨_, rfl⟩
      rw [← hbn]
      have hbe : Below v6.heap.size v6 (v6.alloc (.cells #[.int .i64 0] 3)) := (Below.refl _ _).alloc (Nat.le_refl _) _
      have hn0 := heap_alloc_new v6 (.cells #[.int .i64 0] 3)
      rw [← hbn] at hn0
      have hz7 : (v6.alloc (.cells #[.int .i64 0] 3)).heap.size = bn + 1 := by rw [hbn]; simp
      have hga : 0 < A.length → ∀ g off, qa = some ⟨g, off, none⟩ → g < bn := fun h0 g off e => by rw [hbn]; exact pg_low HA.out h0 g off e
      have h9lt : b9 < bn := by rw [hbn]; exact (Array.getElem?_eq_some_iff.1 H9.out).1
      have hslt : w.heap.size + 2 ≤ bn := by rw [hbn]; exact HS.out.lt
      have HN0 := Lib.hid hn0
      have HSEQ := Lib.hid (fun R D (hst : StabG R D) hD hR => HG.out.seq 5 (v6.alloc (.cells #[.int .i64 0] 3)) R D (by omega) hbe hst hD hR)
      have HS := Lib.hid (HS.out.next hbe); have HA := Lib.hid (HA.out.below hbe); have H9 := Lib.hid ((hbe.block _ (Array.getElem?_eq_some_iff.1 H9.out).1).trans H9.out)
      rw [← hbn] at HSEQ
      generalize v6.alloc (.cells #[.int .i64 0] 3) = v7 at HS HA H9 HN0 hz7 HSEQ ⊢
      obtain ⟨S, hS⟩ : ∃ S : Nat, stop = (S : Int) := ⟨stop.toNat, by omega⟩
      have HSTOP := Lib.hid hS
      have hbn2 := hbn
      clear hbe hn0 hbn hbn2 HG HQ HC HD HE HF h2 hS
      have hst : StabG (fun _ k => k = bn) (bn + 1) := ⟨fun _ _ _ _ _ _ _ => Iff.rfl⟩
      refine range_own rfl (by omega) (gf := 65) (lb := #[.pointer (some ⟨Bp, 0, none⟩)]) rfl trivial (enters_of Try.func65 (by kernel_rfl) rfl) (HSEQ.out (fun _ k => k = bn) (bn + 1) hst (by omega) (fun k hk => ⟨by omega, by omega⟩)) KeepD.trans
        (fun W o o' ho hc => keepD_grown hst (by have := (Array.getElem?_eq_some_iff.1 ho).1; omega) (grownBy_putObj' W _ o') (fun r e => by cases e; exact ⟨by omega, o, ho, hc⟩)) (Below.refl _ _) (fun _ => rfl)
        (WkI S A v7 bn) (WkX S A v7 bn) (wkI_own S A v7 bn) (fun c => wkX_own S A v7 bn c)
        ⟨BelowS.refl _ _ _, HN0.out, Nat.zero_le _, Nat.zero_le _⟩
        (fun x a' _ => a' = { tmps := #[Value.slice p l.length cap, Value.int IntKind.i64 size, Value.int IntKind.i64 stop, undef, undef, Value.pointer (some { block := w.heap.size, off := 0 }), Value.pointer (some { block := w.heap.size + 1, off := 0 }), Value.func (Fn.func 65) #[] #[Value.pointer (some { block := Bp, off := 0 })], Value.func (Fn.func gf) #[] lb, Value.pointer (some { block := b9, off := 0 }), Value.bool true, Value.slice qb B.length cb, Value.bool true, Value.slice qc A.length cc, Value.bool true, Value.slice qd B.length cd, Value.bool true, Value.pointer (some { block := bn, off := 0 }), Value.int IntKind.i64 (x : Int), Value.slice p l.length cap, Value.bool (decide (2100 < (↑l.length : Int))), Value.bool (decide (2100 < (↑l.length : Int))), Value.int IntKind.i64 stop, Value.bool (decide (stop < 0)), Value.bool (decide (2100 < (↑l.length : Int)) || decide (stop < 0)), undef, Value.slice p l.length cap, Value.func (Fn.func 65) #[] #[Value.pointer (some { block := Bp, off := 0 })], Value.slice p l.length cap, Value.int IntKind.i64 size, Value.func (Fn.func gf) #[] lb, Value.tuple #[Value.slice qa A.length ca, Value.bool true], Value.func (Fn.func 65) #[] #[Value.pointer (some { block := Bp, off := 0 })], Value.tuple #[Value.slice qa A.length ca, Value.bool true], Value.slice qa A.length ca, Value.bool true, Value.tuple #[Value.slice qb B.length cb, Value.bool true], Value.func (Fn.func gf) #[] lb, Value.tuple #[Value.slice qb B.length cb, Value.bool true], Value.slice qb B.length cb, Value.bool true, Value.tuple #[Value.slice qc A.length cc, Value.bool true], Value.func (Fn.func 65) #[] #[Value.pointer (some { block := Bp, off := 0 })], Value.tuple #[Value.slice qc A.length cc, Value.bool true], Value.slice qc A.length cc, Value.bool true, Value.tuple #[Value.slice qd B.length cd, Value.bool true], Value.func (Fn.func gf) #[] lb, Value.tuple #[Value.slice qd B.length cd, Value.bool true], Value.slice qd B.length cd, Value.bool true, Value.bool true, Value.bool false, Value.bool false, Value.bool true, Value.bool false, Value.bool false, Value.bool false, Value.bool true, Value.bool false, Value.bool false, Value.bool false, Value.bool true, Value.bool false, Value.bool false, Value.bool false, Value.slice qa A.length ca, Value.slice p l.length cap, Value.slice qe A.length ce, Value.bool true, Value.bool false, Value.bool false, Value.bool false, Value.slice qa A.length ca, Value.slice qc A.length cc, Value.bool true, Value.bool false, Value.bool false, Value.bool false, Value.slice qb B.length cb, Value.slice p l.length cap, Value.int IntKind.i64 size, Value.slice qf B.length cf, Value.bool true, Value.bool false, Value.bool false, Value.bool false, Value.slice qb B.length cb, Value.slice qd B.length cd, Value.bool true, Value.bool false, Value.bool false, Value.func (Fn.func 65) #[] #[Value.pointer (some { block := Bp, off := 0 })], Value.int IntKind.i64 (x : Int), undef, undef, undef, undef, undef, undef, undef, undef, undef, undef, undef, undef, undef, undef, undef, undef, undef, undef, undef, undef, undef, undef, undef, undef, undef, undef], defers := [] })
        (fun x a' s A B row h hg hr => h) ?assign ?body ?done ?stop
      case assign =>
        intro ly pre x W2 K2 hi hK2
        have HI := Lib.hid hi; clear hi
        simp only [pgV]
        gi_wp2
        exact hK2 _ _ (KeepsFrom.refl _ _) (KeepD.refl _ _) HI.out rfl
      case body =>
        rintro ly pre x a' W2 hly ⟨hbx, hkn, hps, hpa⟩ rfl hlt
        have hwf2 : ∀ f, (Fence.wide.inRound ly).fn f := fun _ => trivial
        have hwd2 : (Fence.wide.inRound ly).depth.isSome = false := rfl
        have hq9 := (hbx.block b9 (by omega) (by omega)).trans H9.out
        have hq5 := (hbx.block w.heap.size (by omega) (by omega)).trans HS.out.s5
        have hq6 := (hbx.block (w.heap.size + 1) (by omega) (by omega)).trans HS.out.s6
        have f9 := (row1_cell hq9).1
        have f5 := (row1_cell hq5).1
        obtain ⟨k6, f6⟩ := row1_cell hq6
        obtain ⟨kn, fn⟩ := row1_cell hkn
        obtain ⟨g, off, rfl, hg, hc⟩ := HA.out.at_ (by omega)
        have hgb := hga (by omega) g off rfl
        have y0 : W2.cell? ⟨g, off + pre.length, none⟩ = some (.int .i64 ((A[pre.length]'hlt : Nat) : Int)) := (World.cell?_of_block (w := v7) (hbx.block g (by omega) (by omega))).trans (hc _ hlt)
        have hpx : pre ++ [x] <+: A → x = A[pre.length]'hlt := fun ⟨r, hr⟩ => by
          have : A[pre.length]? = some x := by rw [← hr]; simp
          rw [List.getElem?_eq_getElem hlt] at this
          exact (Option.some.inj this).symm
        generalize A[pre.length]'hlt = y at y0 hpx
        have hsn : (pre ++ [x]).length = pre.length + 1 := by simp
        obtain ⟨N, hN⟩ : ∃ N, N = pre.length := ⟨_, rfl⟩
        rw [← hN] at y0 kn hkn hps hpa hlt hsn
        have i1 : ¬ ((A.length : Nat) : Int) ≤ (N : Int) := by omega
        have i2 : (N : Int) < (A.length : Int) := by omega
        have n0 : (0 : Int) ≤ N := by omega
        have n4 : (N : Int) ≤ 1024 := by omega
        have HBX := Lib.hid hbx; have HKN := Lib.hid hkn; have HSN := Lib.hid hsn; have HQ6 := Lib.hid hq6
        by_cases hxy : x = y
        · subst hxy
          have tx : ((x : Int) != (x : Int)) = false := by simp
          by_cases hs : N = S
          · have ts : ((N : Int) == stop) = true := by rw [HSTOP.out, hs]; exact beq_self_eq_true _
            have HNS := Lib.hid hs
            clear hbx hkn hps hpa hpx hsn hN hq5 hq6 hq9 hs hc
            gi_wp2
            refine ⟨KeepsFrom.refl _ _, ?_⟩
            have hwx : WkX S A v7 bn (.exit 0) (pre ++ [x]) W2 := ⟨fun h => (nomatch h), fun _ => ⟨rfl, by have := HNS.out; omega, HBX.out, by rw [← HNS.out]; exact HKN.out⟩⟩
            exact hwx
          · have ts : ((N : Int) == stop) = false := by rw [HSTOP.out]; exact beq_eq_false_iff_ne.2 (by omega)
            have HLT := Lib.hid (show N + 1 ≤ S by omega)
            clear hbx hkn hps hpa hpx hsn hN hq5 hq6 hq9 hs hc
            gi_wp2
            refine ⟨(KeepsOthers.setCell _ _ _).from _, ?_, setBx HBX.out rfl _, ?_, by rw [HSN.out]; exact HLT.out, by rw [HSN.out]; omega⟩
            · exact keep_set W2 bn _
            · rw [HSN.out]
              have := set_row1 (v := .int .i64 ((N : Int) + 1)) HKN.out
              rw [show ((N + 1 : Nat) : Int) = (N : Int) + 1 by omega]
              exact this
        · have tx : ((x : Int) != (y : Int)) = true := by rw [bne_iff_ne]; omega
          have HNP := Lib.hid (fun h => hxy (hpx h))
          clear hbx hkn hps hpa hpx hsn hN hq5 hq6 hq9 hxy hc
          gi_wp2
          refine ⟨(KeepsOthers.setCell _ _ _).from _, ?_⟩
          unfold WkX
          exact ⟨fun _ => HNP.out, fun h => absurd rfl h⟩
      case done =>
        rintro D' ys W2 hD' hys ⟨hbx, hkn, hps, hpa⟩ hmark
        have hys' : ys = A := hys
        subst hys'
        have hq9 := (hbx.block b9 (by omega) (by omega)).trans H9.out
        have hq5 := (hbx.block w.heap.size (by omega) (by omega)).trans HS.out.s5
        have hq6 := (hbx.block (w.heap.size + 1) (by omega) (by omega)).trans HS.out.s6
        have f9 := (row1_cell hq9).1
        have f5 := (row1_cell hq5).1
        obtain ⟨k6, f6⟩ := row1_cell hq6
        obtain ⟨kn, fn⟩ := row1_cell hkn
        have hbb : Below w.heap.size w W2 := HS.out.below.trans ⟨hbx.os, hbx.tape, hbx.output, hbx.size, fun k hk => hbx.block k (by omega) (by omega)⟩
        have HBZ := Lib.hid hbb; have HM := Lib.hid hmark; have HQ6 := Lib.hid hq6
        clear hbx hkn hpa hq5 hq6 hq9 hbb hmark k6 f6 fn
        rcases Nat.lt_or_ge ys.length S with hse | hse
        · have hm2 : ¬ stop ≤ (ys.length : Int) := by rw [HSTOP.out]; omega
          have hm3 : (((ys.length : Nat) : Int) == (ys.length : Int)) = true := beq_self_eq_true _
          clear hps hse
          gi_wp2
          refine (CA.out _).mono ?_
          rintro e w9 ⟨rfl, hb⟩
          have HBB := Lib.hid (HBZ.out.trans (hb.mono HBZ.out.size)); have HM := Lib.hid ((hb.block _ (Array.getElem?_eq_some_iff.1 HM.out).1).trans HM.out)
          have hq6 := (hb.block _ (Array.getElem?_eq_some_iff.1 HQ6.out).1).trans HQ6.out
          obtain ⟨k6, f6⟩ := row1_cell hq6
          have HQ6 := Lib.hid hq6
          clear hb hq6
          gi_wp2
          have hm3 : (w9.setCell ⟨w.heap.size + 1, 0, none⟩ (.bool true)).heap[D']? = some (.deferred (some [])) := by
            rw [Below.heap_setCell _ _ _ _ (by simp; omega)]; exact HM.out
          have hr3 : (w9.setCell ⟨w.heap.size + 1, 0, none⟩ (.bool true)).heap[w.heap.size + 1]? = some (.cells #[.bool true] 4 (0, 0)) := set_row1 HQ6.out
          have hb3 : Below w.heap.size w (w9.setCell ⟨w.heap.size + 1, 0, none⟩ (.bool true)) := set1B HBB.out (by omega) _
          generalize w9.setCell ⟨w.heap.size + 1, 0, none⟩ (.bool true) = W3 at hm3 hr3 hb3 ⊢
          refine ⟨by simp, .inl ⟨D', _, rfl, run_takeDeferred hm3, ?_⟩⟩
          have k7 := (row1_cell ((World.putObj_heap_other (w := W3) (o := .deferred none) (show w.heap.size + 1 ≠ D' by omega)).trans hr3)).1
          refine ⟨.bool true, by simp [results, Try.results7, go_sem, k7], rfl, ?_⟩
          exact hb3.trans ((Below.refl _ _).grown (grownBy_putObj' W3 D' _) (by have := hb3.size; omega) (fun k e => by cases e; omega))
        · have hm2 : stop ≤ (ys.length : Int) := by rw [HSTOP.out]; omega
          have hm3 : (((ys.length : Nat) : Int) == stop) = true := by rw [HSTOP.out, beq_iff_eq]; omega
          clear hps hse
          gi_wp2
          refine (CA.out _).mono ?_
          rintro e w9 ⟨rfl, hb⟩
          have HBB := Lib.hid (HBZ.out.trans (hb.mono HBZ.out.size)); have HM := Lib.hid ((hb.block _ (Array.getElem?_eq_some_iff.1 HM.out).1).trans HM.out)
          have hq6 := (hb.block _ (Array.getElem?_eq_some_iff.1 HQ6.out).1).trans HQ6.out
          obtain ⟨k6, f6⟩ := row1_cell hq6
          have HQ6 := Lib.hid hq6
          clear hb hq6
          gi_wp2
          have hm3 : (w9.setCell ⟨w.heap.size + 1, 0, none⟩ (.bool true)).heap[D']? = some (.deferred (some [])) := by
            rw [Below.heap_setCell _ _ _ _ (by simp; omega)]; exact HM.out
          have hr3 : (w9.setCell ⟨w.heap.size + 1, 0, none⟩ (.bool true)).heap[w.heap.size + 1]? = some (.cells #[.bool true] 4 (0, 0)) := set_row1 HQ6.out
          have hb3 : Below w.heap.size w (w9.setCell ⟨w.heap.size + 1, 0, none⟩ (.bool true)) := set1B HBB.out (by omega) _
          generalize w9.setCell ⟨w.heap.size + 1, 0, none⟩ (.bool true) = W3 at hm3 hr3 hb3 ⊢
          refine ⟨by simp, .inl ⟨D', _, rfl, run_takeDeferred hm3, ?_⟩⟩
          have k7 := (row1_cell ((World.putObj_heap_other (w := W3) (o := .deferred none) (show w.heap.size + 1 ≠ D' by omega)).trans hr3)).1
          refine ⟨.bool true, by simp [results, Try.results7, go_sem, k7], rfl, ?_⟩
          exact hb3.trans ((Below.refl _ _).grown (grownBy_putObj' W3 D' _) (by have := hb3.size; omega) (fun k e => by cases e; omega))
      case stop =>
        rintro D' c pre W2 hD' hpre ⟨h1, h2⟩ hmark
        have hcr : c ≠ .ret := fun e => h1 e hpre
        obtain ⟨rfl, hlt, hbx, hkn⟩ := h2 hcr
        clear h1 h2 hcr hpre
        have hq9 := (hbx.block b9 (by omega) (by omega)).trans H9.out
        have hq5 := (hbx.block w.heap.size (by omega) (by omega)).trans HS.out.s5
        have hq6 := (hbx.block (w.heap.size + 1) (by omega) (by omega)).trans HS.out.s6
        have f9 := (row1_cell hq9).1
        have f5 := (row1_cell hq5).1
        obtain ⟨k6, f6⟩ := row1_cell hq6
        obtain ⟨kn, fn⟩ := row1_cell hkn
        have hbb : Below w.heap.size w W2 := HS.out.below.trans ⟨hbx.os, hbx.tape, hbx.output, hbx.size, fun k hk => hbx.block k (by omega) (by omega)⟩
        have HBZ := Lib.hid hbb; have HM := Lib.hid hmark; have HQ6 := Lib.hid hq6
        have hm2 : stop ≤ (A.length : Int) := by rw [HSTOP.out]; omega
        have hm3 : ((S : Int) == stop) = true := by rw [HSTOP.out]; exact beq_self_eq_true _
        have hm4 : ((S : Int) == (S : Int)) = true := beq_self_eq_true _
        clear hbx hkn hq5 hq6 hq9 hbb hmark k6 f6 fn
        gi_wp2
        refine (CA.out _).mono ?_
        rintro e w9 ⟨rfl, hb⟩
        have HBB := Lib.hid (HBZ.out.trans (hb.mono HBZ.out.size)); have HM := Lib.hid ((hb.block _ (Array.getElem?_eq_some_iff.1 HM.out).1).trans HM.out)
        have hq6 := (hb.block _ (Array.getElem?_eq_some_iff.1 HQ6.out).1).trans HQ6.out
        obtain ⟨k6, f6⟩ := row1_cell hq6
        have HQ6 := Lib.hid hq6
        clear hb hq6
        gi_wp2
        have hm3 : (w9.setCell ⟨w.heap.size + 1, 0, none⟩ (.bool true)).heap[D']? = some (.deferred (some [])) := by
          rw [Below.heap_setCell _ _ _ _ (by simp; omega)]; exact HM.out
        have hr3 : (w9.setCell ⟨w.heap.size + 1, 0, none⟩ (.bool true)).heap[w.heap.size + 1]? = some (.cells #[.bool true] 4 (0, 0)) := set_row1 HQ6.out
        have hb3 : Below w.heap.size w (w9.setCell ⟨w.heap.size + 1, 0, none⟩ (.bool true)) := set1B HBB.out (by omega) _
        generalize w9.setCell ⟨w.heap.size + 1, 0, none⟩ (.bool true) = W3 at hm3 hr3 hb3 ⊢
        refine ⟨by simp, .inl ⟨D', _, rfl, run_takeDeferred hm3, ?_⟩⟩
        have k7 := (row1_cell ((World.putObj_heap_other (w := W3) (o := .deferred none) (show w.heap.size + 1 ≠ D' by omega)).trans hr3)).1
        refine ⟨.bool true, by simp [results, Try.results7, go_sem, k7], rfl, ?_⟩
        exact hb3.trans ((Below.refl _ _).grown (grownBy_putObj' W3 D' _) (by have := hb3.size; omega) (fun k e => by cases e; omega))
end Go.Proofs.Ytnhbilcpdombfaa
