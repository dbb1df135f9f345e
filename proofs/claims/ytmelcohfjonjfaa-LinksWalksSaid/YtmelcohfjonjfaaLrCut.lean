/- links: the reference's cut. -/
import Derived.Test.YtmelcohfjonjfaaLrApp
namespace Go.Proofs.Ytmelcohfjonjfaa
open Go.RowKit

/-- A part of a list's slice. -/
theorem news_take {K : Nat → Prop} {W V : World} {q c : Nat} {l : List Nat} (hx : ∀ j, j < l.length → W.cell? ⟨q, j, none⟩ = some (.int .i64 (natF l j))) (hq : q < W.heap.size) (hb : Below W.heap.size W V) {k c' : Nat} (hk : k ≤ l.length) :
    NewsAt V (.slice (some ⟨q, 0, none⟩) k c') k (natF l) :=
  .inr ⟨q, 0, c', rfl, fun j hj => by rw [Nat.zero_add]; exact (hb.cell hq).trans (hx j (by omega))⟩
theorem news_drop {W V : World} {q c : Nat} {l : List Nat} (hx : ∀ j, j < l.length → W.cell? ⟨q, j, none⟩ = some (.int .i64 (natF l j))) (hq : q < W.heap.size) (hb : Below W.heap.size W V) (hc : l.length ≤ c) (k : Nat) :
    NewsAt V (.slice (if c = k then some ⟨q, 0, none⟩ else some ⟨q, k, none⟩) (l.length - k) (c - k)) (l.length - k) (fun j => natF l (k + j)) := by
  by_cases e : c = k
  · rw [if_pos e]
    exact .inr ⟨q, 0, c - k, rfl, fun j hj => by omega⟩
  · rw [if_neg e]
    exact .inr ⟨q, k, c - k, rfl, fun j hj => (hb.cell hq).trans (hx (k + j) (by omega))⟩
theorem own_slice {W : World} {base : Nat} {v : Value} {n : Nat} {xs : List Value} {t : TypeId} (h : W.ownsRow base t 1 v n xs) : ∃ p c, v = .slice p n c := by
  rcases h.2 with ⟨h1, h0⟩ | ⟨g, c, cur, h1, _⟩
  · exact ⟨none, 0, by rw [h1, h0]⟩
  · exact ⟨_, c, h1⟩
theorem cut_own {W : World} {b k N : Nat} {u : Value} {L : List Nat} (hN : N = 0 + k + (L.length - (k + 1))) (h : W.ownsRow b 3 1 u N ([] ++ IntC k (natF L) ++ IntC (L.length - (k + 1)) fun j => natF L (k + 1 + j))) (hk : k ≤ L.length) :
    W.ownsRow b 3 1 u (L.take k ++ L.drop (k + 1)).length (natC (L.take k ++ L.drop (k + 1))) := by
  have e : natC (L.take k ++ L.drop (k + 1)) = [] ++ IntC k (natF L) ++ IntC (L.length - (k + 1)) fun j => natF L (k + 1 + j) := by
    rw [natC_take hk, natC_drop]; simp [natC]
  have e2 : (L.take k ++ L.drop (k + 1)).length = 0 + k + (L.length - (k + 1)) := by simp; omega
  rw [e, e2, ← hN]; exact h
theorem put_own {W : World} {b k x N : Nat} {u : Value} {L : List Nat} (hN : N = 0 + k + 1 + (L.length - k)) (h : W.ownsRow b 3 1 u N ([] ++ IntC k (natF L) ++ IntC 1 (fun _ => (x : Int)) ++ IntC (L.length - k) fun j => natF L (k + j))) (hk : k ≤ L.length) :
    W.ownsRow b 3 1 u (L.take k ++ x :: L.drop k).length (natC (L.take k ++ x :: L.drop k)) := by
  have e : natC (L.take k ++ x :: L.drop k) = [] ++ IntC k (natF L) ++ IntC 1 (fun _ => (x : Int)) ++ IntC (L.length - k) fun j => natF L (k + j) := by
    rw [natC_take hk, natC_drop]; simp [natC, IntC]
  have e2 : (L.take k ++ x :: L.drop k).length = 0 + k + 1 + (L.length - k) := by simp; omega
  rw [e, e2, ← hN]; exact h
set_option maxHeartbeats 4000000 in
set_option maxRecDepth 100000 in
theorem cut_any {K : Nat → Prop} {W : World} {C g gv cg cv n m base : Nat} {v : Nat → Int} {of : Nat → List Nat} (h : LsAt K W C g gv cg cv n m v of) (hk : KOk K base C g gv) (hbs : base ≤ W.heap.size) {i k : Nat} (hi : i < m) (hm : m ≤ 100000) {L : List Nat} (hL : of i = L) (hkl : k < L.length) (hl : L.length ≤ 2000) :
    Calls Try.prog 64 #[.pointer (some ⟨C, 0, none⟩), .int .i64 (i : Int), .int .i64 (k : Int)] W (LsPost K C g gv cg cv n m v (setOf of i (L.take k ++ L.drop (k + 1))) W) := by
  obtain ⟨c0, c1, c2⟩ := h.cells
  obtain ⟨u, u0, u1, hu⟩ := h.row hi
  rw [hL] at hu
  rcases hu with ⟨_, rfl⟩ | ⟨q, c, rfl, hcl, hKq, hq, hx⟩
  · cases hkl
  have HLS := Lib.hid h; have HK := Lib.hid hk; have HBS := Lib.hid hbs
  have n1 := h.ne.1
  have hlt := hk.lt
  have i0 : (0 : Int) ≤ i := by omega
  have i1 : (i : Int) < m := by omega
  have k0 : (0 : Int) ≤ k := by omega
  have k1 : (k : Int) ≤ c := by omega
  have k2 : (k : Int) + 1 ≤ (L.length : Int) := by omega
  have k3 : (0 : Int) ≤ (k : Int) + 1 := by omega
  have k4 : (L.length : Int) ≤ c := by omega
  have w1 : IntKind.i64.wrap ((k : Int) + 1) = (k : Int) + 1 := IntWalk.i64_in _ (by omega)
  have w2 : ((k : Int) + 1).toNat = k + 1 := by omega
  have hKEEP : ∀ (A A' : World), A.cell? ⟨C, 1, none⟩ = some (.slice (some ⟨g, 0, none⟩) m cg) → Below W.heap.size A A' → A'.cell? ⟨C, 1, none⟩ = some (.slice (some ⟨g, 0, none⟩) m cg) := fun A A' ha hb => (hb.cell (p := ⟨C, 1, none⟩) (by show C < _; omega)).trans ha
  have hSET : ∀ (A : World) (u : Value), A.cell? ⟨C, 1, none⟩ = some (.slice (some ⟨g, 0, none⟩) m cg) → (A.setCell ⟨g, i, none⟩ u).cell? ⟨C, 1, none⟩ = some (.slice (some ⟨g, 0, none⟩) m cg) := fun A u ha => (World.cell?_of_block (w := A) (Below.heap_setCell _ _ _ _ (by simpa using n1))).trans ha
  have hALL : ∀ (A : World) (o : Obj), A.cell? ⟨C, 1, none⟩ = some (.slice (some ⟨g, 0, none⟩) m cg) → (A.alloc o).cell? ⟨C, 1, none⟩ = some (.slice (some ⟨g, 0, none⟩) m cg) := fun A o ha => (World.cell?_of_block (w := A) (w' := A.alloc o) (a := ⟨C, 1, none⟩) (Below.heap_alloc A o C (World.block_lt_of_cell? A ⟨C, 1, none⟩ ha))).trans ha
  have s0 : W.drew.cell? ⟨C, 1, none⟩ = some (.slice (some ⟨g, 0, none⟩) m cg) := c1
  have s1 : (W.alloc (.cells #[] 3)).drew.cell? ⟨C, 1, none⟩ = some (.slice (some ⟨g, 0, none⟩) m cg) := hALL W _ c1
  have KEEP := Lib.hid hKEEP; have SET := Lib.hid hSET; have ALL := Lib.hid hALL
  have HX := Lib.hid hx; have HCL := Lib.hid hcl; have HQ := Lib.hid hq; have HKL := Lib.hid hkl; have HL := Lib.hid hl; have HOF := Lib.hid hL
  have HG := Lib.hid (show g < W.heap.size by omega)
  have HROW := Lib.hid u0; have HFR := Lib.hid u1
  have hB0 := Lib.hid ((((Below.refl W.heap.size W)).alloc (Nat.le_refl _) (.cells #[] 3)).drew)
  clear h hk hbs hkl hl hx hcl hq hKEEP hSET hALL n1 hlt hL
  go_enter Try.func64, Try.ntmps64
  go_wp2_with fail
  go_region_held3 (fun Wx => Wx.cell? ⟨C, 1, none⟩ = some (.slice (some ⟨g, 0, none⟩) m cg)) (first | with_reducible exact s0 | with_reducible exact s1 | with_reducible exact ALL.out _ _ (by assumption) | with_reducible exact KEEP.out _ _ (by assumption) (by assumption) | with_reducible exact SET.out _ _ (by assumption)) (first
    | (refine step_app rfl (.tmp 19) (.tmp 22) rfl _ 0 [] rfl (World.ownsRow_made W #[] 0 (Nat.le_refl _) (Nat.zero_le _) rfl) _ k (natF L) rfl (news_take (K := K) (c := c) HX.out HQ.out hB0.out (Nat.le_of_lt HKL.out)) (by simp) (by have := HKL.out; have := HL.out; omega) ?_; intro v4 w4 hown4 hb4
       have HOWN4 := Lib.hid hown4; have HB4 := Lib.hid (hB0.out.trans hb4)
       clear hown4)
    | (refine step_app rfl (.tmp 23) (.tmp 27) rfl _ (0 + k) ([] ++ IntC k (natF L)) rfl HOWN4.out _ (L.length - (k + 1)) (fun j => natF L (k + 1 + j)) rfl (news_drop HX.out HQ.out HB4.out HCL.out (k + 1)) HB4.out.size (by have := HKL.out; have := HL.out; omega) ?_; intro v5 w5 hown5 hb5
       obtain ⟨N5, hN5⟩ : ∃ N5, N5 = 0 + k + (L.length - (k + 1)) := ⟨_, rfl⟩
       rw [← hN5] at hown5
       have HN5 := Lib.hid hN5
       clear hN5
       obtain ⟨p5, c5, rfl⟩ := own_slice hown5
       have HOWN5 := Lib.hid hown5; have HB5 := Lib.hid (HB4.out.trans hb5)
       have f0 := (HB5.out.cell (p := ⟨g, i, none⟩) HG.out).trans HROW.out
       have f1 := (HB5.out.frozen (p := ⟨g, i, none⟩) HG.out).trans HFR.out
       clear hown5))
  clear KEEP SET ALL s0 s1 hb4 hb5 f0 f1 c0 c1 c2
  go_end0
  exact ⟨rfl, HLS.out.setList HK.out HBS.out HB5.out hi (own_slK (cut_own HN5.out HOWN5.out (Nat.le_of_lt HKL.out)) (fun q hq => HK.out.new q (Nat.le_trans HBS.out hq))), belowS_set HB5.out _⟩
end Go.Proofs.Ytmelcohfjonjfaa
