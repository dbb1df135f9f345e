/- spans: Pieces, the iterator. -/
import Derived.Test.YtnhbilcpdombfaaSpClone
namespace Go.Proofs.Ytnhbilcpdombfaa
open Go.RowKit Go.Shelf
attribute [local go_sem] Oper.semAt_some

/-- The end of the piece that begins at a. -/
def toP (size a e : Nat) : Nat := min (a - a % size + size) e
/-- The pieces from a to e. -/
def cutP (size : Nat) : Nat → Nat → Nat → List (Nat × Nat)
  | 0, _, _ => []
  | f + 1, a, e => if a < e then (a, toP size a e - a) :: cutP size f (toP size a e) e else []
theorem toP_lt {size a e : Nat} (h : a < e) (hs : 1 ≤ size) : a < toP size a e ∧ toP size a e ≤ e := by
  have h1 := Nat.mod_lt a hs
  have h2 := Nat.mod_le a size
  unfold toP
  exact ⟨by omega, by omega⟩
theorem cutP_succ (size f a e : Nat) : cutP size (f + 1) a e = if a < e then (a, toP size a e - a) :: cutP size f (toP size a e) e else [] := rfl
theorem cutP_fuel {size : Nat} (hs : 1 ≤ size) (f : Nat) : ∀ a e, e - a ≤ f → cutP size f a e = cutP size (e - a) a e := by
  induction f using Nat.strongRecOn with
  | _ f ih =>
    intro a e h
    by_cases hlt : a < e
    · obtain ⟨d, hd⟩ : ∃ d, e - a = d + 1 := ⟨e - a - 1, by omega⟩
      obtain ⟨g, rfl⟩ : ∃ g, f = g + 1 := ⟨f - 1, by omega⟩
      obtain ⟨h1, h2⟩ := toP_lt hlt hs
      rw [hd, cutP_succ, cutP_succ, if_pos hlt, if_pos hlt, ih g (by omega) _ _ (by omega), ih d (by omega) _ _ (by omega)]
    · have h0 : e - a = 0 := by omega
      rw [h0]
      cases f with
      | zero => rfl
      | succ g => rw [cutP_succ, if_neg hlt]; rfl
theorem cutP_step {size a e : Nat} (hs : 1 ≤ size) (h : a < e) : cutP size (e - a) a e = (a, toP size a e - a) :: cutP size (e - toP size a e) (toP size a e) e := by
  obtain ⟨d, hd⟩ : ∃ d, e - a = d + 1 := ⟨e - a - 1, by omega⟩
  obtain ⟨h1, h2⟩ := toP_lt h hs
  rw [hd, cutP_succ, if_pos h, cutP_fuel hs d _ _ (by omega)]
theorem cutP_end {size a e : Nat} (h : ¬ a < e) : cutP size (e - a) a e = [] := by rw [show e - a = 0 by omega]; rfl
/-- The pieces of a set. -/
def piecesL (size : Nat) (s : List (Nat × Nat)) : List (Nat × Nat) := s.flatMap fun x => cutP size x.2 x.1 (x.1 + x.2)
theorem piecesL_append (size : Nat) (s t : List (Nat × Nat)) : piecesL size (s ++ t) = piecesL size s ++ piecesL size t := by unfold piecesL; rw [List.flatMap_append]
def spV (x : Nat × Nat) : Array Value := #[.agg #[.int .i64 (x.1 : Int), .int .i64 (x.2 : Int)]]
/-- From one world to a later one: what is not of R (the blocks that the loop's body writes) is as it was. -/
structure KeepD (R : World → Nat → Prop) (W W' : World) : Prop where
  size : W.heap.size ≤ W'.heap.size
  lt : (∀ k, R W k → k < W.heap.size) → ∀ k, R W' k → k < W'.heap.size
  row : ∀ k, k < W.heap.size → R W' k → R W k
  cell : ∀ (a : Addr) v, W.cell? a = some v → ¬ R W a.block → W'.cell? a = some v
theorem KeepD.refl (R : World → Nat → Prop) (W : World) : KeepD R W W := ⟨Nat.le_refl _, fun h => h, fun _ _ h => h, fun _ _ h _ => h⟩
theorem KeepD.trans {R : World → Nat → Prop} {A B C : World} (h : KeepD R A B) (k : KeepD R B C) : KeepD R A C :=
  ⟨Nat.le_trans h.size k.size, fun hl => k.lt (h.lt hl), fun i hi hr => h.row i hi (k.row i (Nat.lt_of_lt_of_le hi h.size) hr),
   fun a v hc hn => k.cell a v (h.cell a v hc hn) (fun hr => hn (h.row _ (World.block_lt_of_cell? A _ hc) hr))⟩
/-- What R says does not hang on memory that was made later. -/
structure Stab (R : World → Nat → Prop) (D : Nat) : Prop where
  below : ∀ W W', D ≤ W.heap.size → Below W.heap.size W W' → ∀ k, R W' k ↔ R W k
theorem KeepD.of {R : World → Nat → Prop} {D : Nat} {W W' : World} (hs : Stab R D) (hd : D ≤ W.heap.size) (hb : Below W.heap.size W W') : KeepD R W W' :=
  ⟨hb.size, fun h k hk => Nat.lt_of_lt_of_le (h k ((hs.below _ _ hd hb k).1 hk)) hb.size, fun k _ hk => (hs.below _ _ hd hb k).1 hk, fun _ _ hc _ => (hb.cell (World.block_lt_of_cell? W _ hc)).trans hc⟩
/-- What an iterator's two invariants are at the loop that runs it. -/
structure LoopsK {X : Type} (V : X → Array Value) (n : Nat) (R : World → Nat → Prop) (l N : Nat) (J Jx : List X → World → Prop) (B : Nat) : Prop where
  jb : AbidesFrom B J
  jx : AbidesFrom B Jx
  yield : ∀ pre x W1, J pre W1 → pre.length < N → YieldAt Fence.wide n Try.prog l (V x) W1 fun e W' =>
      (e = .returned (.bool true) ∧ J (pre ++ [x]) W' ∧ KeepD R W1 W') ∨ (e = .returned (.bool false) ∧ Jx (pre ++ [x]) W')
theorem LoopsK.grow {X : Type} {V : X → Array Value} {n : Nat} {R : World → Nat → Prop} {l N : Nat} {J Jx : List X → World → Prop} {B : Nat} (h : LoopsK V n R l N J Jx B) {pre : List X} {W W' : World} (hj : J pre W) (hb : Below W.heap.size W W') : J pre W' :=
  h.jb pre W W' none hj (grownBy_of_below hb none) (fun r e => by cases e)
/-- What the iterator reads. -/
structure QReads (R : World → Nat → Prop) (D Bs Bz size : Nat) (p : Option Addr) (cap : Nat) (s : List (Nat × Nat)) (W : World) : Prop where
  dl : D ≤ W.heap.size
  wf : ∀ k, R W k → k < W.heap.size
  box : W.cell? ⟨Bs, 0, none⟩ = some (.slice p s.length cap)
  zbox : W.cell? ⟨Bz, 0, none⟩ = some (.int .i64 (size : Int))
  n0 : ¬ R W Bs
  n1 : ¬ R W Bz
  sps : SpsAt W p (up s)
  ns : 0 < s.length → ∀ g off, p = some ⟨g, off, none⟩ → ¬ R W g
theorem QReads.later {R : World → Nat → Prop} {D Bs Bz size : Nat} {p : Option Addr} {cap : Nat} {s : List (Nat × Nat)} {W W' : World} (h : QReads R D Bs Bz size p cap s W) (hk : KeepD R W W') : QReads R D Bs Bz size p cap s W' := by
  refine ⟨Nat.le_trans h.dl hk.size, hk.lt h.wf, hk.cell _ _ h.box h.n0, hk.cell _ _ h.zbox h.n1, fun hr => h.n0 (hk.row _ (World.block_lt_of_cell? W _ h.box) hr), fun hr => h.n1 (hk.row _ (World.block_lt_of_cell? W _ h.zbox) hr), ⟨h.sps.len, h.sps.fit, fun hl => ?_⟩, fun hl g off e hr => ?_⟩
  · obtain ⟨g, off, e, hg, hc⟩ := h.sps.at_ hl
    have hn := h.ns (by rw [up_len] at hl; exact hl) g off e
    exact ⟨g, off, e, Nat.lt_of_lt_of_le hg hk.size, fun j hj => ⟨hk.cell _ _ (hc j hj).1 hn, hk.cell _ _ (hc j hj).2 hn⟩⟩
  · obtain ⟨g', off', e', hg, hc⟩ := h.sps.at_ (by rw [up_len]; exact hl)
    rw [e] at e'; cases e'
    exact h.ns hl g off e (hk.row _ hg hr)
/-- The box of the span at hand. -/
structure XBox (R : World → Nat → Prop) (Bx a b : Nat) (W : World) : Prop where
  c0 : W.cell? ⟨Bx, 0, none⟩ = some (.int .i64 (a : Int))
  c1 : W.cell? ⟨Bx, 1, none⟩ = some (.int .i64 (b : Int))
  n : ¬ R W Bx
theorem XBox.later {R : World → Nat → Prop} {Bx a b : Nat} {W W' : World} (h : XBox R Bx a b W) (hk : KeepD R W W') : XBox R Bx a b W' :=
  ⟨hk.cell _ _ h.c0 h.n, hk.cell _ _ h.c1 h.n, fun hr => h.n (hk.row _ (World.block_lt_of_cell? W _ h.c0) hr)⟩
set_option maxRecDepth 100000 in
set_option maxHeartbeats 8000000 in
theorem pieces2_in (n : Nat) (R : World → Nat → Prop) (D Bs Bz size cap ly : Nat) (p : Option Addr) (s : List (Nat × Nat)) (hs : IsSet 1024 s) (hl : s.length ≤ 512) (hz1 : 1 ≤ size) (hz2 : size ≤ 1024) (hf : Stab R D)
    (J Jx : List (Nat × Nat) → World → Prop) (W : World) (hL : LoopsK spV (n - 1) R ly (piecesL size s).length J Jx W.heap.size) (hR : QReads R D Bs Bz size p cap s W) (h0 : J [] W) :
    CallsIn Fence.wide n Try.prog 68 #[.func (.yield ly) #[] #[], .pointer (some ⟨Bs, 0, none⟩), .pointer (some ⟨Bz, 0, none⟩)] W (IterPost (piecesL size s) J Jx) := by
  refine callsIn_of_wp Try.func68 rfl trivial ?_ rfl
  simp only [Try.ntmps68, List.size_toArray, List.length_cons, List.length_nil, Nat.reduceAdd, Nat.reduceSub, Array.replicate_succ, Array.replicate_zero, List.push_toArray, List.append_toArray, List.nil_append, List.cons_append]
  have b0 := hR.box
  have HR := Lib.hid hR; have HL := Lib.hid hL; have HJ := Lib.hid h0; have HF := Lib.hid hf; have HS := Lib.hid hs
  clear hR hL h0 hf hs
  have hwf : ∀ f, Fence.wide.fn f := fun _ => trivial
  have hwd : Fence.wide.depth.isSome = false := rfl
  have l4 : (s.length : Int) ≤ 512 := by omega
  gi_wp2
  gi_loopg [10] s.length (fun n1 i W1 => ∃ j : Nat, j + n1 = s.length ∧ i = .int .i64 j ∧ J (piecesL size (s.take j)) W1 ∧ QReads R D Bs Bz size p cap s W1)
  case atStart => exact ⟨0, by omega, by go_num, by simpa [piecesL] using HJ.out, HR.out⟩
  case round =>
    clear b0 HJ HR
    obtain ⟨j, hjn, rfl, hj, hr⟩ := hrel
    obtain ⟨wx, rfl⟩ : ∃ wx : World, wx = wr := ⟨_, rfl⟩
    have HJ := Lib.hid hj; have HR := Lib.hid hr
    clear hj hr
    have j0 : (0 : Int) ≤ j := by omega
    by_cases hlt : j < s.length
    · obtain ⟨n', rfl⟩ : ∃ n', gk = n' + 1 := ⟨gk - 1, by omega⟩
      obtain ⟨g, off, rfl, hg, hc⟩ := HR.out.sps.at_ (by rw [up_len]; omega)
      obtain ⟨x0, x1⟩ := hc j (by rw [up_len]; exact hlt)
      rw [up_get] at x0 x1
      obtain ⟨v1, v2⟩ := HS.out.run _ (List.getElem_mem hlt)
      have htk : s.take (j + 1) = s.take j ++ [s[j]'hlt] := by rw [List.take_add_one, List.getElem?_eq_getElem hlt]; rfl
      have hpl : piecesL size (s.take (j + 1)) = piecesL size (s.take j) ++ piecesL size [s[j]'hlt] := by rw [htk, piecesL_append]
      have hT : piecesL size s = piecesL size (s.take (j + 1)) ++ piecesL size (s.drop (j + 1)) := by rw [← piecesL_append, List.take_append_drop]
      generalize s[j]'hlt = x at x0 x1 v1 v2 hpl
      obtain ⟨a, b⟩ := x
      simp only at x0 x1 v1 v2
      have i1 : (j : Int) < s.length := by omega
      obtain ⟨e, he⟩ : ∃ e, e = a + b := ⟨_, rfl⟩
      have hone : piecesL size [(a, b)] = cutP size (e - a) a e := by
        unfold piecesL; rw [List.flatMap_cons, List.flatMap_nil, List.append_nil, he, show a + b - a = b by omega]
      rw [hone] at hpl
      have CE := Lib.hid (fun W => end_nat a b e he (by omega) W)
      have he4 : e ≤ 1024 := by omega
      have hae : a ≤ e := by omega
      have HPL := Lib.hid hpl; have HT := Lib.hid hT
      clear hc htk hpl hT hone he
      gi_wp2
      have hbz := heap_alloc_new wx (.cells #[.int .i64 (a : Int), .int .i64 (b : Int)] 31)
      have hbe : Below wx.heap.size wx (wx.alloc (.cells #[.int .i64 (a : Int), .int .i64 (b : Int)] 31)) := (Below.refl _ _).alloc (Nat.le_refl _) _
      have hXB : XBox R wx.heap.size a b (wx.alloc (.cells #[.int .i64 (a : Int), .int .i64 (b : Int)] 31)) := ⟨row_cell hbz rfl, row_cell hbz rfl, fun hr => Nat.lt_irrefl _ (HR.out.wf _ ((HF.out.below _ _ HR.out.dl hbe _).1 hr))⟩
      have HXB := Lib.hid hXB
      have HRV := Lib.hid (HR.out.later (KeepD.of HF.out HR.out.dl hbe))
      have HJV := Lib.hid (HL.out.grow HJ.out hbe)
      generalize wx.alloc (.cells #[.int .i64 (a : Int), .int .i64 (b : Int)] 31) = wv at HXB HRV HJV ⊢
      generalize wx.heap.size = Bx at HXB ⊢
      clear hbz hbe hXB HJ HR x0 x1 hg
      gi_loopg [6] (e - a) (fun n1 fr W1 => ∃ (pg : Nat) (pre : List (Nat × Nat)), pg + n1 = e ∧ a ≤ pg ∧ fr = .int .i64 pg ∧ J pre W1 ∧ QReads R D Bs Bz size (some ⟨g, off, none⟩) cap s W1 ∧ XBox R Bx a b W1 ∧ pre ++ cutP size (e - pg) pg e = piecesL size (s.take (j + 1)))
      case atStart => exact ⟨a, _, by omega, Nat.le_refl _, rfl, HJV.out, HRV.out, HXB.out, HPL.out.symm⟩
      case round =>
        clear HXB HRV HJV
        obtain ⟨pg, pre, hpn, hap, rfl, hj, hr, hxb, hpre⟩ := hrel
        obtain ⟨wy, rfl⟩ : ∃ wy : World, wy = wr := ⟨_, rfl⟩
        have HJ := Lib.hid hj; have HR := Lib.hid hr; have HXB := Lib.hid hxb; have HPRE := Lib.hid hpre
        have d0 := hxb.c0
        have d1 := hxb.c1
        clear hj hr hxb hpre
        have p0 : (0 : Int) ≤ pg := by omega
        by_cases hlt2 : pg < e
        · obtain ⟨tq, hto⟩ : ∃ tq, tq = toP size pg e := ⟨_, rfl⟩
          obtain ⟨hto1, hto2⟩ := toP_lt hlt2 hz1
          rw [← hto] at hto1 hto2
          have hcut := cutP_step hz1 hlt2
          rw [← hto] at hcut
          obtain ⟨r, hr⟩ : ∃ r, r = pg % size := ⟨_, rfl⟩
          have hr1 : r < size := by rw [hr]; exact Nat.mod_lt _ hz1
          have hr2 : r ≤ pg := by rw [hr]; exact Nat.mod_le _ _
          have hrem : Int.tmod (pg : Int) (size : Int) = (r : Int) := by rw [hr, ← Int.ofNat_tmod]
          have hmin : (tq : Int) = min ((pg : Int) - (r : Int) + (size : Int)) (e : Int) := by rw [hto]; unfold toP; rw [← hr]; omega
          have HCUT := Lib.hid hcut; have HTO := Lib.hid hto; have HREM := Lib.hid hrem; have HMIN := Lib.hid hmin
          have i2 : (pg : Int) < (e : Int) := by omega
          clear hcut hto hr hrem hmin
          gi_wp2_with (gi_at_call 52; refine (callsIn_wide.2 (CE.out _)).mono ?_; rintro e' w1 ⟨rfl, hb⟩
                       have HR1 := Lib.hid (HR.out.later (KeepD.of HF.out HR.out.dl hb))
                       have HX1 := Lib.hid (HXB.out.later (KeepD.of HF.out HR.out.dl hb))
                       have HJ1 := Lib.hid (HL.out.grow HJ.out hb)
                       clear hb d0 d1 HR HXB HJ)
          have f0 := HX1.out.c0
          have f1 := HX1.out.c1
          have f2 := HR1.out.zbox
          have w1' : IntKind.i64.wrap ((pg : Int) - (r : Int)) = (pg : Int) - (r : Int) := IntWalk.i64_in _ (by omega)
          have w2' : IntKind.i64.wrap ((pg : Int) - (r : Int) + (size : Int)) = (pg : Int) - (r : Int) + (size : Int) := IntWalk.i64_in _ (by omega)
          have w3' : IntKind.i64.wrap (r : Int) = (r : Int) := IntWalk.i64_in _ (by omega)
          have z0 : ¬ (size : Int) = 0 := by omega
          have z0' : ¬ size = 0 := by omega
          have FB0 := Lib.hid f0; have FB1 := Lib.hid f1; have FB2 := Lib.hid f2
          have hdl := HR1.out.dl
          refine region_class (C := fun w' => Below w1.heap.size w1 w') rfl (by kernel_rfl) (by kernel_rfl) (drewOne _ _) ?_
          clear f0 f1 f2
          refine BigFrame.wpQuietIn_want (fun _ _ _ _ => trivial) rfl (fun K hK => BigFrame.quietIn_move _ rfl (hK _ ?_)); clear hK K; go_simp
          refine BigFrame.wpQuietIn_want (fun _ _ _ _ => trivial) rfl (fun K hK => BigFrame.quietIn_move _ rfl (hK _ ?_)); clear hK K; go_simp
          refine BigFrame.wpQuietIn_want (fun _ _ _ _ => trivial) rfl (fun K hK => ⟨.int .i64 (size : Int), fun w' hw' => ?_, hK _ ?_⟩)
          · have hc := (hw'.cell (p := ⟨Bz, 0, none⟩) (World.block_lt_of_cell? w1 _ FB2.out)).trans FB2.out
            unfold Oper.quietAtIn
            simp [go_sem, hc, Oper.quietUponIn]
          clear hK K; go_simp
          refine BigFrame.wpQuietIn_want (fun _ _ _ _ => trivial) rfl (fun K hK => ⟨.int .i64 (r : Int), fun w' hw' => ?_, hK _ ?_⟩)
          · unfold Oper.quietAtIn
            simp [go_sem, z0, z0', HREM.out, w3', Oper.quietUponIn]
          clear hK K; go_simp
          refine BigFrame.wpQuietIn_want (fun _ _ _ _ => trivial) rfl (fun K hK => ⟨.int .i64 ((pg : Int) - (r : Int)), fun w' hw' => ?_, hK _ ?_⟩)
          · unfold Oper.quietAtIn
            simp [go_sem, w1', Oper.quietUponIn]
          clear hK K; go_simp
          refine BigFrame.wpQuietIn_want (fun _ _ _ _ => trivial) rfl (fun K hK => ⟨.int .i64 (size : Int), fun w' hw' => ?_, hK _ ?_⟩)
          · have hc := (hw'.cell (p := ⟨Bz, 0, none⟩) (World.block_lt_of_cell? w1 _ FB2.out)).trans FB2.out
            unfold Oper.quietAtIn
            simp [go_sem, hc, Oper.quietUponIn]
          clear hK K; go_simp
          refine BigFrame.wpQuietIn_want (fun _ _ _ _ => trivial) rfl (fun K hK => ⟨.int .i64 ((pg : Int) - (r : Int) + (size : Int)), fun w' hw' => ?_, hK _ ?_⟩)
          · unfold Oper.quietAtIn
            simp [go_sem, w2', Oper.quietUponIn]
          clear hK K; go_simp
          refine BigFrame.wpQuietIn_want (fun _ _ _ _ => trivial) rfl (fun K hK => ⟨.agg #[.int .i64 (a : Int), .int .i64 (b : Int)], fun w' hw' => ?_, hK _ ?_⟩)
          · have hc0 := (hw'.cell (p := ⟨Bx, 0, none⟩) (World.block_lt_of_cell? w1 _ FB0.out)).trans FB0.out
            have hc1 := (hw'.cell (p := ⟨Bx, 1, none⟩) (World.block_lt_of_cell? w1 _ FB1.out)).trans FB1.out
            unfold Oper.quietAtIn
            simp [go_sem, hc0, hc1, Oper.quietUponIn]
          clear hK K; go_simp
          refine BigFrame.wpQuietIn_want (fun _ _ _ _ => trivial) rfl (fun K hK => ⟨.int .i64 (e : Int), fun w' hw' => ?_, hK _ ?_⟩)
          · unfold Oper.quietAtIn
            simp [go_sem, Oper.quietUponIn]
            refine ⟨fun h => (by rw [hwd] at h; cases h), ?_⟩
            refine (callsIn_wide.2 (CE.out _)).mono ?_
            rintro e' w1 ⟨rfl, hb⟩
            exact ⟨rfl, hw'.trans (hb.mono hw'.size)⟩
          clear hK K; go_simp
          refine BigFrame.wpQuietIn_want (fun _ _ _ _ => trivial) rfl (fun K hK => ⟨.int .i64 (tq : Int), fun w' hw' => ?_, hK _ ?_⟩)
          · unfold Oper.quietAtIn
            simp [go_sem, Oper.quietUponIn]
            have := HMIN.out
            split <;> omega
          clear hK K; go_simp
          refine BigFrame.wpQuietIn_want (fun _ _ _ _ => trivial) rfl (fun K hK => BigFrame.quietIn_assign _ rfl (hK _ ?_)); clear hK K; go_simp
          refine wpQuietIn_nil ?_
          intro w2 hb
          have HR2 := Lib.hid (HR1.out.later (KeepD.of HF.out HR1.out.dl hb))
          have HX2 := Lib.hid (HX1.out.later (KeepD.of HF.out HR1.out.dl hb))
          have HJ2 := Lib.hid (HL.out.grow HJ1.out hb)
          have hlen : pre.length < (piecesL size s).length := by
            rw [HT.out, ← HPRE.out, HCUT.out]; simp
          have hy := yield_bool (HL.out.yield pre (pg, tq - pg) _ HJ2.out hlen)
          have hcast : ((tq - pg : Nat) : Int) = (tq : Int) - (pg : Int) := by omega
          unfold spV at hy
          simp only [hcast] at hy
          obtain ⟨fn2, tmps2, assign2, body2, hy, hY⟩ := hy
          have w4' : IntKind.i64.wrap ((tq : Int) - (pg : Int)) = (tq : Int) - (pg : Int) := IntWalk.i64_in _ (by omega)
          clear hb hcast hlen HR1 HX1 HJ1 w1' w2' w3' z0 z0'
          gi_wp2
          refine hY.mono ?_
          clear hy hY
          rintro e' w3 ⟨y, rfl, hpost⟩
          rcases hpost with ⟨rfl, hj2, hk2⟩ | ⟨rfl, hjx⟩
          · have HJ3 := Lib.hid hj2
            have HR3 := Lib.hid (HR2.out.later hk2)
            have HX3 := Lib.hid (HX2.out.later hk2)
            clear hj2 hk2
            gi_wp2
            gi_roundg (e - tq)
            case measure => omega
            case rel => exact ⟨tq, _, by omega, by omega, rfl, HJ3.out, HR3.out, HX3.out, by rw [← HPRE.out, HCUT.out]; simp⟩
          · have HJX := Lib.hid hjx
            clear hjx
            gi_wp2
            refine bodyPost_ret (results_none rfl _ _ _) rfl ?_
            exact iter_stop _ (by rw [HT.out, ← HPRE.out, HCUT.out]; simp) HJX.out
        · have i2 : ¬ (pg : Int) < (e : Int) := by omega
          have hE := HPRE.out
          rw [cutP_end hlt2, List.append_nil] at hE
          have HE := Lib.hid hE
          clear hE
          gi_wp2_with (gi_at_call 52; refine (callsIn_wide.2 (CE.out _)).mono ?_; rintro e' w1 ⟨rfl, hb⟩
                       have HR1 := Lib.hid (HR.out.later (KeepD.of HF.out HR.out.dl hb))
                       have HJ1 := Lib.hid (HL.out.grow HJ.out hb)
                       clear hb d0 d1 HR HXB HJ)
          gi_roundg n'
          case measure => omega
          case rel => exact ⟨j + 1, by omega, by go_num, by rw [← HE.out]; exact HJ1.out, HR1.out⟩
    · obtain rfl : j = s.length := by omega
      have hj := HJ.out
      rw [List.take_length] at hj
      have HJE := Lib.hid hj
      have i1 : ¬ ((s.length : Nat) : Int) < s.length := by omega
      clear hj
      gi_wp2
      go_end0
      exact iter_done HJE.out
theorem pieces_stops (n : Nat) (R : World → Nat → Prop) (D Bs Bz size cap : Nat) (p : Option Addr) (s : List (Nat × Nat)) (hs : IsSet 1024 s) (hl : s.length ≤ 512) (hz1 : 1 ≤ size) (hz2 : size ≤ 1024) (hf : Stab R D)
    (w : World) (hR : QReads R D Bs Bz size p cap s w) :
    SeqStopsK Fence.wide n Try.prog 68 #[.pointer (some ⟨Bs, 0, none⟩), .pointer (some ⟨Bz, 0, none⟩)] spV (KeepD R) (fun ys => ys = piecesL size s) (fun ys => ys <+: piecesL size s) (piecesL size s).length w := by
  intro ly J Jx W hW hJ hJx hY h0
  refine (pieces2_in n R D Bs Bz size cap ly p s hs hl hz1 hz2 hf J Jx W ⟨hJ, hJx, hY⟩ (hR.later (KeepD.of hf hR.dl hW)) h0).mono ?_
  rintro e W' ⟨hv, ⟨ys, rfl, hj⟩ | ⟨pre, hpre, hj⟩⟩
  · exact ⟨hv, .inl ⟨_, rfl, hj⟩⟩
  · exact ⟨hv, .inr ⟨pre, hpre, hj⟩⟩
/-- What Pieces returns, where its arguments are good: the iterator, and in its boxes the clone and the size. -/
def PiecesPost (s : List (Nat × Nat)) (size : Nat) (w : World) (e : Ending) (w' : World) : Prop :=
  ∃ Bs Bz v, e = .returned (.func (.func 68) #[] #[.pointer (some ⟨Bs, 0, none⟩), .pointer (some ⟨Bz, 0, none⟩)]) ∧ Below w.heap.size w w' ∧ w.heap.size ≤ Bs ∧ w.heap.size ≤ Bz ∧
    w'.heap[Bs]? = some (.cells #[v] 22 (0, 0)) ∧ w'.heap[Bz]? = some (.cells #[.int .i64 (size : Int)] 3 (0, 0)) ∧ w'.ownsRow w.heap.size 31 2 v s.length (SpC s)
set_option maxHeartbeats 2000000 in
set_option maxRecDepth 100000 in
theorem pieces_good (s : List (Nat × Nat)) (p : Option Addr) (cap size : Nat) (w : World) (h : SpsAt w p (up s)) (hl : s.length ≤ 512) (hz1 : 1 ≤ size) (hz2 : size ≤ 1024)
    (hck : checkR (up s) = 0) : Calls Try.prog 37 #[.slice p s.length cap, .int .i64 (size : Int)] w (PiecesPost s size w) := by
  have ck := fun W (hW : Below w.heap.size w W) => check_any (up s) p cap W (h.below hW)
  rw [up_len, hck] at ck
  have cc := fun W (hW : Below w.heap.size w W) => clone_any s p cap W (h.below hW) (by omega)
  unfold ErrPost at ck
  unfold SpsPost at cc
  have CK := Lib.hid ck; have CC := Lib.hid cc
  have i1 : ¬ (size : Int) < 1 := by omega
  have i2 : ¬ (1024 : Int) < (size : Int) := by omega
  clear ck cc hck h
  go_enter Try.func37, Try.ntmps37
  go_wp2_with fail
  have hz := heap_alloc_new w (.cells #[.int .i64 (size : Int)] 3)
  have hbe : Below w.heap.size w (w.alloc (.cells #[.int .i64 (size : Int)] 3)) := (Below.refl _ _).alloc (Nat.le_refl _) _
  refine (CK.out _ hbe).mono ?_
  rintro e w1 ⟨rfl, hb⟩
  have hz1 := (hb.block _ (Array.getElem?_eq_some_iff.1 hz).1).trans hz
  have z0 := cell_of_row1 hz1
  have HZ := Lib.hid hz1
  have HB1 := Lib.hid (hbe.trans (hb.mono hbe.size))
  clear hz hbe hb hz1
  go_wp2_with fail
  refine (CC.out _ HB1.out).mono ?_
  rintro e w2 ⟨v, rfl, hb, ho⟩
  obtain ⟨pv, nv, cv, rfl⟩ : ∃ pv nv cv, v = .slice pv nv cv := by
    rcases ho.2 with ⟨h, _⟩ | ⟨g, c, cur, h, _⟩
    · exact ⟨_, _, _, h⟩
    · exact ⟨_, _, _, h⟩
  have hz3 := (hb.block _ (Array.getElem?_eq_some_iff.1 HZ.out).1).trans HZ.out
  have HZ3 := Lib.hid hz3
  have HB2 := Lib.hid (below_next HB1.out hb)
  have HO := Lib.hid (ownsRow_base ho HB1.out.size)
  clear hb ho hz3 z0
  go_wp2_with fail
  go_ret
  have hz4 := heap_alloc_new w2 (.cells #[.slice pv nv cv] 22)
  have hbe : Below w2.heap.size w2 (w2.alloc (.cells #[.slice pv nv cv] 22)) := (Below.refl _ _).alloc (Nat.le_refl _) _
  exact ⟨w2.heap.size, w.heap.size, _, rfl, below_next HB2.out hbe, HB2.out.size, Nat.le_refl _, hz4, (hbe.block _ (Array.getElem?_eq_some_iff.1 HZ3.out).1).trans HZ3.out, HO.out.alloc _⟩
end Go.Proofs.Ytnhbilcpdombfaa
