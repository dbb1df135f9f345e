/- spans: Pages, and what the law's pages makes of it. -/
import Derived.Test.YtnhbilcpdombfaaSpPcMath
import Derived.Laws.EntriesVeiled
namespace Go.Proofs.Ytnhbilcpdombfaa
open Go.RowKit Go.Shelf

theorem rowR_stabG {B D : Nat} (h : B < D) : StabG (rowR B) D := ⟨fun W W' row hd hg hr k => by
  have e : W'.cell? ⟨B, 0, none⟩ = W.cell? ⟨B, 0, none⟩ := World.cell?_of_block (hg.block B (by omega) (fun e => by have := (hr B e.symm).1; omega))
  unfold rowR; rw [e]⟩
theorem pages_seq (n : Nat) (R : World → Nat → Prop) (D Bp gf : Nat) (lb : Array Value) (L : List (Nat × Nat)) (w : World) (hn : 3 ≤ n) (hst : StabG R D) (eg : ∀ args w, (callFunc gf args).run Try.prog w = .ok (.enter gf args) w)
    (hD : D ≤ w.heap.size) (hwR : ∀ k, R w k → k < w.heap.size)
    (hseq : ∀ W', Below w.heap.size w W' → SeqStopsK Fence.wide (n - 1) Try.prog gf lb spV (KeepD R) (fun ys => ys = L) (fun ys => ys <+: L) L.length W')
    (hP : w.cell? ⟨Bp, 0, none⟩ = some (.func (.func gf) #[] lb)) :
    SeqO Fence.wide n Try.prog 65 #[.pointer (some ⟨Bp, 0, none⟩)] pgV (KeepD R) (fun ys => ys = L.map (·.1)) (fun ys => ys <+: L.map (·.1)) (L.map (·.1)).length w := by
  intro l J Jx W hW hJ hJx hy h0
  refine (pages1_in n R D Bp l gf lb L hn hst eg J Jx W (Nat.le_trans hD hW.size) (fun k hk => Nat.lt_of_lt_of_le (hwR k ((hst.stab.below _ _ hD hW k).1 hk)) hW.size)
    (fun W' hW' => hseq W' (hW.trans (hW'.mono hW.size))) hJ hJx (fun pre x W1 hj hl => hy pre x W1 hj (by rw [List.length_map]; exact hl)) ((hW.cell (World.block_lt_of_cell? w _ hP)).trans hP) h0).mono ?_
  rintro e W' ⟨hv, ⟨ys, rfl, hj⟩ | ⟨pre, hpre, hj⟩⟩
  · exact ⟨hv, .inl ⟨_, rfl, hj⟩⟩
  · exact ⟨hv, .inr ⟨pre, hpre, hj⟩⟩
/-- What the iterator of the pieces reads, where a loop appends to the variable in block bo. -/
theorem reads_row {t : TypeId} {Bs Bz size cap bo : Nat} {p : Option Addr} {s : List (Nat × Nat)} {w W : World} (hb : w.heap[Bs]? = some (.cells #[.slice p s.length cap] 22 (0, 0))) (hz : w.heap[Bz]? = some (.cells #[.int .i64 (size : Int)] 3 (0, 0))) (hp : SpsAt w p (up s))
    (h1 : w.heap.size ≤ bo) (h2 : bo < W.heap.size) (hW : Below w.heap.size w W) (hx : Boxed W bo t (.slice none 0 0)) : QReads (rowR bo) (bo + 1) Bs Bz size p cap s W := by
  have lz : ∀ {k : Nat} {o : Obj}, w.heap[k]? = some o → k < w.heap.size := fun h => (Array.getElem?_eq_some_iff.1 h).1
  have l1 := lz hb
  have l2 := lz hz
  have hn : ∀ k, rowR bo W k → k = bo := fun k h => by
    rcases rowR_new hx h with h | h
    · exact h
    · cases h
  refine ⟨by omega, fun k h => ?_, cell_of_row1 ((hW.block _ l1).trans hb), cell_of_row1 ((hW.block _ l2).trans hz), fun h => ?_, fun h => ?_, hp.below hW, fun h0 g off e h => ?_⟩
  · have := hn k h; omega
  · have := hn _ h; omega
  · have := hn _ h; omega
  · have := hn _ h
    obtain ⟨g', off', e', hg', _⟩ := hp.at_ (by rw [up_len]; exact h0)
    rw [e] at e'; cases e'; omega
theorem pieces_row {t : TypeId} (n : Nat) {Bs Bz size cap bo : Nat} {p : Option Addr} {s : List (Nat × Nat)} {w W : World} (hs : IsSet 1024 s) (hl : s.length ≤ 512) (hz1 : 1 ≤ size) (hz2 : size ≤ 1024) (hb : w.heap[Bs]? = some (.cells #[.slice p s.length cap] 22 (0, 0))) (hz : w.heap[Bz]? = some (.cells #[.int .i64 (size : Int)] 3 (0, 0))) (hp : SpsAt w p (up s))
    (h1 : w.heap.size ≤ bo) (h2 : bo < W.heap.size) (hW : Below w.heap.size w W) (hx : Boxed W bo t (.slice none 0 0)) (W' : World) (hW' : Below W.heap.size W W') :
    SeqStopsK Fence.wide n Try.prog 68 #[.pointer (some ⟨Bs, 0, none⟩), .pointer (some ⟨Bz, 0, none⟩)] spV (KeepD (rowR bo)) (fun ys => ys = piecesL size s) (fun ys => ys <+: piecesL size s) (piecesL size s).length W' :=
  pieces_stops n (rowR bo) (bo + 1) Bs Bz size cap p s hs hl hz1 hz2 (rowR_stab (by omega)) W' ((reads_row hb hz hp h1 h2 hW hx).later (KeepD.of (rowR_stab (by omega)) (by omega) hW'))
theorem lpages_good (Bp Bs Bz most cap : Nat) (p : Option Addr) (s : List (Nat × Nat)) (w : World) (hs : IsSet 1024 s) (hl : s.length ≤ 512)
    (hq : w.heap[Bp]? = some (.cells #[.func (.func 68) #[] #[.pointer (some ⟨Bs, 0, none⟩), .pointer (some ⟨Bz, 0, none⟩)]] 46 (0, 0)))
    (hb : w.heap[Bs]? = some (.cells #[.slice p s.length cap] 22 (0, 0))) (hz : w.heap[Bz]? = some (.cells #[.int .i64 ((1 : Nat) : Int)] 3 (0, 0))) (hp : SpsAt w p (up s)) :
    Calls Try.prog 38 #[.func (.func 65) #[] #[.pointer (some ⟨Bp, 0, none⟩)], .int .i64 (most : Int)] w (LgPost (lgR most (pagesL s)) w) := by
  rw [← pages_one]
  have hlen := (pieces_facts (size := 1) (Nat.le_refl _) hs).2.2.1 0 (fun x _ => Nat.zero_le _)
  refine callsIn_wide.1 (lpages_gen 4 65 _ ((piecesL 1 s).map (·.1)) most w (by omega) (enters_of Try.func65 (by kernel_rfl) rfl) (by rw [List.length_map]; omega) fun bo W h1 h2 hW hx => ?_)
  have hn : ∀ k, rowR bo W k → k < W.heap.size := fun k h => by
    rcases rowR_new hx h with h | h
    · omega
    · cases h
  exact pages_seq 3 (rowR bo) (bo + 1) Bp 68 _ (piecesL 1 s) W (Nat.le_refl _) (rowR_stabG (by omega)) (enters_of Try.func68 (by kernel_rfl) rfl) (by omega) hn
    (fun W' hW' => pieces_row 2 hs hl (Nat.le_refl _) (by omega) hb hz hp h1 h2 hW hx W' hW') (cell_of_row1 ((hW.block _ (Array.getElem?_eq_some_iff.1 hq).1).trans hq))
def PagesPost (s : List (Nat × Nat)) (w : World) (e : Ending) (w' : World) : Prop :=
  ∃ Bp Bs Bz v, e = .returned (.func (.func 65) #[] #[.pointer (some ⟨Bp, 0, none⟩)]) ∧ Below w.heap.size w w' ∧
    w'.heap[Bp]? = some (.cells #[.func (.func 68) #[] #[.pointer (some ⟨Bs, 0, none⟩), .pointer (some ⟨Bz, 0, none⟩)]] 46 (0, 0)) ∧
    w'.heap[Bs]? = some (.cells #[v] 22 (0, 0)) ∧ w'.heap[Bz]? = some (.cells #[.int .i64 ((1 : Nat) : Int)] 3 (0, 0)) ∧ w'.ownsRow w.heap.size 31 2 v s.length (SpC s)
set_option maxHeartbeats 2000000 in
set_option maxRecDepth 100000 in
theorem pages_good (s : List (Nat × Nat)) (p : Option Addr) (cap : Nat) (w : World) (h : SpsAt w p (up s)) (hl : s.length ≤ 512) (hck : checkR (up s) = 0) :
    Calls Try.prog 36 #[.slice p s.length cap] w (PagesPost s w) := by
  have CP := Lib.hid (pieces_good s p cap 1 w h hl (Nat.le_refl _) (by omega) hck)
  clear h hck
  go_enter Try.func36, Try.ntmps36
  go_wp2_with fail
  refine CP.out.mono ?_
  rintro e w1 ⟨Bs, Bz, v, rfl, hb, _, _, hs1, hs2, ho⟩
  have HB := Lib.hid hb; have H1 := Lib.hid hs1; have H2 := Lib.hid hs2; have HO := Lib.hid ho
  clear hb hs1 hs2 ho
  go_wp2_with fail
  go_ret
  have hz4 := heap_alloc_new w1 (.cells #[.func (.func 68) #[] #[.pointer (some ⟨Bs, 0, none⟩), .pointer (some ⟨Bz, 0, none⟩)]] 46)
  have hbe : Below w1.heap.size w1 (w1.alloc (.cells #[.func (.func 68) #[] #[.pointer (some ⟨Bs, 0, none⟩), .pointer (some ⟨Bz, 0, none⟩)]] 46)) := (Below.refl _ _).alloc (Nat.le_refl _) _
  exact ⟨w1.heap.size, Bs, Bz, v, rfl, below_next HB.out hbe, hz4, (hbe.block _ (Array.getElem?_eq_some_iff.1 H1.out).1).trans H1.out, (hbe.block _ (Array.getElem?_eq_some_iff.1 H2.out).1).trans H2.out, HO.out.alloc _⟩
end Go.Proofs.Ytnhbilcpdombfaa
