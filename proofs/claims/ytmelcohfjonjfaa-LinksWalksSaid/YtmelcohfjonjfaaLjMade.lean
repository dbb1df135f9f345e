/- links: the law's made. -/
import Derived.Test.YtmelcohfjonjfaaLjDo
namespace Go.Proofs.Ytmelcohfjonjfaa
open Go.RowKit

/-- A list of calls in memory. -/
def CallsAt (W : World) (p : Option Addr) (len : Nat) : Prop := ∀ j, j < len → ∃ g off : Nat, p = some ⟨g, off, none⟩ ∧ g < W.heap.size ∧ ∃ (w a b c : Int) (f : Bool),
  W.cell? ⟨g, off + j * 5, none⟩ = some (.int .u8 w) ∧ W.cell? ⟨g, off + j * 5 + 1, none⟩ = some (.int .i64 a) ∧ W.cell? ⟨g, off + j * 5 + 2, none⟩ = some (.int .i64 b) ∧ W.cell? ⟨g, off + j * 5 + 3, none⟩ = some (.int .i64 c) ∧ W.cell? ⟨g, off + j * 5 + 4, none⟩ = some (.bool f)
theorem CallsAt.below {W W' : World} {p : Option Addr} {len : Nat} (h : CallsAt W p len) (hb : Below W.heap.size W W') : CallsAt W' p len := by
  intro j hj
  obtain ⟨g, off, e, hg, w, a, b, c, f, h0, h1, h2, h3, h4⟩ := h j hj
  exact ⟨g, off, e, Nat.lt_of_lt_of_le hg hb.size, w, a, b, c, f, (hb.cell hg).trans h0, (hb.cell hg).trans h1, (hb.cell hg).trans h2, (hb.cell hg).trans h3, (hb.cell hg).trans h4⟩
/-- New pools on both sides hold nothing. -/
theorem jst_new {W w1 w2 : World} {n m B g gv cg cv : Nat} {D : LkB} (h1 : NewS W w1 B n m D (fun _ => 0) (fun _ => []))
    (hg : ∃ cur, w2.heap[g]? = some (.cells cur 29 (0, 0)) ∧ m ≤ cur.size ∧ ∀ j, j < m → cur[j]? = some (.slice none 0 0)) (hv : RowF w2 gv n (fun _ => 0)) (l1 : w1.heap.size ≤ g) (l2 : w1.heap.size ≤ gv) (hne : g ≠ gv) (hb : Below w1.heap.size w1 w2) :
    JSt W ⟨B, n, m, D, w2.heap.size, g, gv, cg, cv, w2.heap.size + 1⟩ (w2.alloc (.cells #[.int .i64 (n : Int), .slice (some ⟨g, 0, none⟩) m cg, .slice (some ⟨gv, 0, none⟩) n cv] 31)) (fun _ => 0) (fun _ => []) := by
  have q := h1.q
  obtain ⟨F, hp, hr⟩ := h1
  have hlt := hp.pool.lt
  obtain ⟨cur, r1, r2, r3⟩ := hg
  have hgl := (Array.getElem?_eq_some_iff.1 r1).1
  have hvl := hv.lt
  have hB2 : Below w2.heap.size w2 (w2.alloc (.cells #[.int .i64 (n : Int), .slice (some ⟨g, 0, none⟩) m cg, .slice (some ⟨gv, 0, none⟩) n cv] 31)) := (Below.refl _ _).alloc (Nat.le_refl _) _
  have hs := hb.size
  have ho := hp.old.size
  obtain ⟨n1, n2, n3, n4, n5, n6, n7⟩ := hp.new
  have q2 := (q.keep hb).keep hB2
  have hDn : ∀ k, D.S k → W.heap.size ≤ k ∧ k < w1.heap.size := by
    intro k hk
    refine ⟨?_, hlt k (.inr hk)⟩
    rcases hk with e | e | e | e | e | e <;> omega
  have hBn : W.heap.size ≤ B ∧ B < w1.heap.size := ⟨n1, hlt B (.inl rfl)⟩
  refine ⟨q2.pool, ⟨heap_alloc_new w2 _, ⟨cur, (hB2.block g hgl).trans r1, r2, fun j hj => ⟨_, r3 j hj, .inl ⟨rfl, rfl⟩⟩⟩, hv.below hB2 hvl, ?_, ?_, hne⟩, ?_, ?_, ?_, q2.old, fun _ _ _ => rfl⟩
  · show w2.heap.size ≠ g; omega
  · show w2.heap.size ≠ gv; omega
  · refine ⟨?_, ?_, fun e => ?_, fun e => ?_, fun e => ?_⟩
    · show B ≠ g; omega
    · show B ≠ gv; omega
    · have := hDn _ e; show False; have h2 : g < w1.heap.size := this.2; omega
    · have := hDn _ e; show False; have h2 : gv < w1.heap.size := this.2; omega
    · have := hDn _ e; show False; have h2 : w2.heap.size < w1.heap.size := this.2; omega
  · intro k hk
    show W.heap.size ≤ k ∧ k < w2.heap.size + 1
    rcases hk with e | e | e | e | e
    · have e : k = B := e; omega
    · have := hDn k e; omega
    · have e : k = w2.heap.size := e; omega
    · have e : k = g := e; omega
    · have e : k = gv := e; omega
  · show w2.heap.size + 1 ≤ _
    rw [size1]; exact Nat.le_refl _
def MadePost (n m : Nat) (W : World) (e : Ending) (W' : World) : Prop := ∃ (P : JP) (v : Nat → Int) (of : Nat → List Nat), P.n = n ∧ P.m = m ∧ e = .returned (.tuple #[.pointer (some ⟨P.B, 0, none⟩), .pointer (some ⟨P.C, 0, none⟩)]) ∧ JSt W P W' v of
set_option maxHeartbeats 4000000 in
set_option maxRecDepth 100000 in
theorem made_any {W : World} {n m len cap : Nat} {p : Option Addr} (nn : 1 ≤ n ∧ n ≤ 2000) (mm : 1 ≤ m ∧ m ≤ 64) (hx : CallsAt W p len) (hl : len ≤ 100000) :
    Calls Try.prog 25 #[.int .i64 (n : Int), .int .i64 (m : Int), .slice p len cap] W (MadePost n m W) := by
  have CN := Lib.hid (New_ok (W := W) nn mm)
  have CR := Lib.hid (fun V => rnew_ok (W := V) nn mm)
  have HX := Lib.hid hx; have HL := Lib.hid hl
  clear nn mm hx hl
  go_enter Try.func25, Try.ntmps25
  go_wp2_with fail
  refine CN.out.mono ?_
  rintro e w1 ⟨B, D, rfl, h1⟩
  have H1 := Lib.hid h1
  clear h1 CN
  go_wp2_with fail
  refine (CR.out _).mono ?_
  rintro e w2 ⟨g, gv, cg, cv, rfl, hg, hv, l1, l2, hne, hb⟩
  have H2 := Lib.hid (jst_new (cg := cg) (cv := cv) H1.out hg hv l1 l2 hne hb)
  clear hg hv l1 l2 hne hb CR
  go_wp2_with fail
  generalize w2.alloc (.cells #[.int .i64 (n : Int), .slice (some ⟨g, 0, none⟩) m cg, .slice (some ⟨gv, 0, none⟩) n cv] 31) = w3 at H2 ⊢
  generalize w2.heap.size = C0 at H2 ⊢
  clear H1
  go_loopg [12] len (fun n1 i wr => ∃ k : Nat, k + n1 = len ∧ i = .int .i64 (k : Int) ∧ ∃ v of, JSt W ⟨B, n, m, D, C0, g, gv, cg, cv, C0 + 1⟩ wr v of)
  case atStart => exact ⟨0, by omega, by go_num, _, _, H2.out⟩
  case round =>
    obtain ⟨k, hkl, rfl, v, of, hJ⟩ := hrel
    obtain ⟨wx, rfl⟩ : ∃ wx : World, wx = wr := ⟨_, rfl⟩
    by_cases hlt : k < len
    · obtain ⟨n', rfl⟩ : ∃ n', gk = n' + 1 := ⟨gk - 1, by omega⟩
      obtain ⟨q, off, rfl, hq, w, a, b, c, f, x0, x1, x2, x3, x4⟩ := (HX.out.below hJ.old) k hlt
      have CD : Calls Try.prog 18 #[.pointer (some ⟨B, 0, none⟩), .pointer (some ⟨C0, 0, none⟩), callV w a b c f] wx (DoPost W ⟨B, n, m, D, C0, g, gv, cg, cv, C0 + 1⟩ wx) := do_any hJ w a b c f
      unfold callV at CD
      have CD := Lib.hid CD
      have i1 : (k : Int) < len := by omega
      have i2 : (0 : Int) ≤ k := by omega
      have w1 : IntKind.i64.wrap ((k : Int) + 1) = (k : Int) + 1 := IntWalk.i64_in _ (by have := HL.out; omega)
      clear hJ hq
      go_wp2_with fail
      refine CD.out.mono ?_
      rintro e w5 ⟨rfl, ⟨v', of', hJ'⟩, _⟩
      have HJ := Lib.hid hJ'
      clear hJ' CD x0 x1 x2 x3 x4
      go_wp2_with fail
      go_roundg n'
      case measure => omega
      case rel => exact ⟨k + 1, by omega, by go_num, _, _, HJ.out⟩
    · obtain rfl : k = len := by omega
      have HJ := Lib.hid hJ
      clear hJ
      go_wp2_with fail
      go_ret2
      exact ⟨⟨B, n, m, D, C0, g, gv, cg, cv, C0 + 1⟩, v, of, rfl, rfl, rfl, HJ.out⟩
end Go.Proofs.Ytmelcohfjonjfaa
