/- spans: Pieces and Pages at whatever list and size: what is returned keeps an iterator's contract from then on. -/
import Derived.Test.YtnhbilcpdombfaaSpPgs
namespace Go.Proofs.Ytnhbilcpdombfaa
open Go.RowKit Go.Shelf
attribute [local go_sem] Oper.semAt_some

set_option maxRecDepth 100000 in
theorem none_stops (n : Nat) (Kp : World → World → Prop) (w : World) : SeqStopsK Fence.wide n Try.prog 66 #[] spV Kp (fun ys => ys = []) (fun ys => ys <+: []) 0 w := by
  intro ly J Jx W _ _ _ _ h0
  refine (show CallsIn Fence.wide n Try.prog 66 #[.func (.yield ly) #[] #[]] W (IterPost [] J Jx) from ?_).mono ?_
  · refine callsIn_of_wp Try.func66 rfl trivial ?_ rfl
    simp only [Try.ntmps66, List.size_toArray, List.length_cons, List.length_nil, Nat.reduceAdd, Nat.reduceSub, Array.replicate_succ, Array.replicate_zero, List.push_toArray, List.append_toArray, List.nil_append, List.cons_append]
    have HJ := Lib.hid h0
    clear h0
    have hwf : ∀ f, Fence.wide.fn f := fun _ => trivial
    have hwd : Fence.wide.depth.isSome = false := rfl
    gi_wp2
    go_end0
    exact iter_done HJ.out
  · rintro e W' ⟨hv, ⟨ys, rfl, hj⟩ | ⟨pre, hpre, hj⟩⟩
    · exact ⟨hv, .inl ⟨_, rfl, hj⟩⟩
    · exact ⟨hv, .inr ⟨pre, hpre, hj⟩⟩
/-- A function value that goes through B, in w and whatever comes of it: no loop that writes only what was made since then disturbs it. -/
structure GoodP (gf : Nat) (lb : Array Value) (B : List (Nat × Nat)) (w : World) : Prop where
  eg : ∀ args w, (callFunc gf args).run Try.prog w = .ok (.enter gf args) w
  len : B.length ≤ 1024
  seq : ∀ n W R D, Below w.heap.size w W → Stab R D → D ≤ W.heap.size → (∀ k, R W k → k < W.heap.size ∧ w.heap.size ≤ k) → SeqStopsK Fence.wide n Try.prog gf lb spV (KeepD R) (fun ys => ys = B) (fun ys => ys <+: B) B.length W
theorem GoodP.later {gf : Nat} {lb : Array Value} {B : List (Nat × Nat)} {w w' : World} (h : GoodP gf lb B w) (hb : Below w.heap.size w w') : GoodP gf lb B w' :=
  ⟨h.eg, h.len, fun n W R D hW hs hd hr => h.seq n W R D (hb.trans (hW.mono hb.size)) hs hd fun k hk => ⟨(hr k hk).1, Nat.le_trans hb.size (hr k hk).2⟩⟩
theorem goodP_none (w : World) : GoodP 66 #[] [] w := ⟨enters_of Try.func66 (by kernel_rfl) rfl, by simp, fun n W R D _ _ _ _ => none_stops n (KeepD R) W⟩
theorem goodP_two {Bs Bz size cap : Nat} {p : Option Addr} {s : List (Nat × Nat)} {w : World} (hs : IsSet 1024 s) (hl : s.length ≤ 512) (hz1 : 1 ≤ size) (hz2 : size ≤ 1024) (hb : w.heap[Bs]? = some (.cells #[.slice p s.length cap] 22 (0, 0)))
    (hz : w.heap[Bz]? = some (.cells #[.int .i64 (size : Int)] 3 (0, 0))) (hp : SpsAt w p (up s)) : GoodP 68 #[.pointer (some ⟨Bs, 0, none⟩), .pointer (some ⟨Bz, 0, none⟩)] (piecesL size s) w := by
  refine ⟨enters_of Try.func68 (by kernel_rfl) rfl, ?_, fun n W R D hW hst hD hR => pieces_stops n R D Bs Bz size cap p s hs hl hz1 hz2 hst W ?_⟩
  · have := (pieces_facts hz1 hs).2.2.1 0 (fun x _ => Nat.zero_le _)
    omega
  · have lz : ∀ {k : Nat} {o : Obj}, w.heap[k]? = some o → k < w.heap.size := fun h => (Array.getElem?_eq_some_iff.1 h).1
    have l1 := lz hb
    have l2 := lz hz
    refine ⟨hD, fun k h => (hR k h).1, cell_of_row1 ((hW.block _ l1).trans hb), cell_of_row1 ((hW.block _ l2).trans hz), fun h => ?_, fun h => ?_, hp.below hW, fun h0 g off e h => ?_⟩
    · have := (hR _ h).2; omega
    · have := (hR _ h).2; omega
    · have := (hR _ h).2
      obtain ⟨g', off', e', hg', _⟩ := hp.at_ (by rw [up_len]; exact h0)
      rw [e] at e'; cases e'; omega
theorem rowR_only {bo : Nat} {t : TypeId} {w W : World} (h1 : w.heap.size ≤ bo) (h2 : bo < W.heap.size) (hx : Boxed W bo t (.slice none 0 0)) : ∀ k, rowR bo W k → k < W.heap.size ∧ w.heap.size ≤ k := fun k h => by
  rcases rowR_new hx h with h | h
  · omega
  · cases h
theorem GoodP.lp {gf : Nat} {lb : Array Value} {B : List (Nat × Nat)} {w : World} (h : GoodP gf lb B w) (W : World) (hW : Below w.heap.size w W) : Calls Try.prog 39 #[.func (.func gf) #[] lb, .int .i64 1024] W (LpPost (B, true) W) := by
  have := callsIn_wide.1 (lpieces_gen 3 gf lb B 1024 W (Nat.le_refl _) h.eg (by have := h.len; omega) fun bo V h1 h2 hV hx =>
    seqO_of ((h.later hW).seq 2 V (rowR bo) (bo + 1) hV (rowR_stab (by omega)) (by omega) (rowR_only h1 h2 hx)))
  have e : lpR 1024 B = (B, true) := by unfold lpR; rw [if_pos h.len]
  rw [e] at this
  exact this
/-- What Pieces goes through. -/
def pcR (l : List (Int × Int)) (size : Int) : List (Nat × Nat) := if checkR l = 0 ∧ 1 ≤ size ∧ size ≤ 1024 then piecesL size.toNat (down l) else []
def PcPost (B : List (Nat × Nat)) (w : World) (e : Ending) (w' : World) : Prop := ∃ gf lb, e = .returned (.func (.func gf) #[] lb) ∧ Below w.heap.size w w' ∧ GoodP gf lb B w'
set_option maxHeartbeats 2000000 in
set_option maxRecDepth 100000 in
theorem pieces_any (l : List (Int × Int)) (p : Option Addr) (cap : Nat) (size : Int) (w : World) (h : SpsAt w p l) : Calls Try.prog 37 #[.slice p l.length cap, .int .i64 size] w (PcPost (pcR l size) w) := by
  by_cases hg : checkR l = 0 ∧ 1 ≤ size ∧ size ≤ 1024
  · have e : pcR l size = piecesL size.toNat (down l) := by unfold pcR; rw [if_pos hg]
    rw [e]
    obtain ⟨hc, h1, h2⟩ := hg
    obtain ⟨m, rfl⟩ : ∃ m : Nat, size = (m : Int) := ⟨size.toNat, by omega⟩
    obtain ⟨hv, hset, hl⟩ := check_set hc
    have hul := up_down hv
    have hd := down_len l
    rw [Int.toNat_natCast]
    generalize down l = s at hset hul hd ⊢
    subst hul
    rw [up_len] at hl ⊢
    refine (pieces_good s p cap m w h hl (by omega) (by omega) hc).mono ?_
    rintro e w' ⟨Bs, Bz, v, rfl, hb, _, _, hs1, hs2, ho⟩
    obtain ⟨q1, c1, rfl, hq1⟩ := own_sps ho (fun x hx => hset.run x hx) (by omega)
    exact ⟨_, _, rfl, hb, goodP_two hset hl (by omega) (by omega) hs1 hs2 hq1⟩
  · have e : pcR l size = [] := by unfold pcR; rw [if_neg hg]
    rw [e]
    have ck := fun W (hW : Below w.heap.size w W) => check_any l p cap W (h.below hW)
    unfold ErrPost at ck
    have CK := Lib.hid ck
    have HBE := Lib.hid (show Below w.heap.size w (w.alloc (.cells #[.int .i64 size] 3)) from (Below.refl _ _).alloc (Nat.le_refl _) _)
    have z0 := cell_of_row1 (heap_alloc_new w (.cells #[.int .i64 size] 3))
    have HZ := Lib.hid z0
    clear ck h z0 e
    by_cases hc : checkR l = 0
    · rw [hc] at CK
      by_cases h1 : size < 1
      · clear hg hc
        go_enter Try.func37, Try.ntmps37
        go_wp2_with fail
        refine (CK.out _ HBE.out).mono ?_
        rintro e w1 ⟨rfl, hb⟩
        have HB := Lib.hid (below_next HBE.out hb)
        have z1 := (hb.cell (World.block_lt_of_cell? _ _ HZ.out)).trans HZ.out
        clear hb
        go_wp2_with fail
        go_ret
        exact ⟨_, _, rfl, HB.out, goodP_none _⟩
      · have h2 : 1024 < size := by omega
        clear hg hc
        go_enter Try.func37, Try.ntmps37
        go_wp2_with fail
        refine (CK.out _ HBE.out).mono ?_
        rintro e w1 ⟨rfl, hb⟩
        have HB := Lib.hid (below_next HBE.out hb)
        have z1 := (hb.cell (World.block_lt_of_cell? _ _ HZ.out)).trans HZ.out
        clear hb
        go_wp2_with fail
        go_ret
        exact ⟨_, _, rfl, HB.out, goodP_none _⟩
    · obtain ⟨t1, t2⟩ := neq0 hc
      generalize checkR l = c at CK t1 t2 hc hg
      clear hg hc
      go_enter Try.func37, Try.ntmps37
      go_wp2_with fail
      refine (CK.out _ HBE.out).mono ?_
      rintro e w1 ⟨rfl, hb⟩
      have HB := Lib.hid (below_next HBE.out hb)
      clear hb
      go_wp2_with fail
      go_ret
      exact ⟨_, _, rfl, HB.out, goodP_none _⟩
/-- An iterator over pages, likewise. -/
structure GoodQ (Bp : Nat) (A : List Nat) (w : World) : Prop where
  lp : ∀ W, Below w.heap.size w W → Calls Try.prog 38 #[.func (.func 65) #[] #[.pointer (some ⟨Bp, 0, none⟩)], .int .i64 1024] W (LgPost (A, true) W)
  seq : ∀ n W R D, 3 ≤ n → Below w.heap.size w W → StabG R D → D ≤ W.heap.size → (∀ k, R W k → k < W.heap.size ∧ w.heap.size ≤ k) →
    SeqO Fence.wide n Try.prog 65 #[.pointer (some ⟨Bp, 0, none⟩)] pgV (KeepD R) (fun ys => ys = A) (fun ys => ys <+: A) A.length W
theorem goodQ_of {gf : Nat} {lb : Array Value} {B : List (Nat × Nat)} {Bp : Nat} {w : World} (h : GoodP gf lb B w) (hq : w.cell? ⟨Bp, 0, none⟩ = some (.func (.func gf) #[] lb)) : GoodQ Bp (B.map (·.1)) w := by
  have seq : ∀ n W R D, 3 ≤ n → Below w.heap.size w W → StabG R D → D ≤ W.heap.size → (∀ k, R W k → k < W.heap.size ∧ w.heap.size ≤ k) →
      SeqO Fence.wide n Try.prog 65 #[.pointer (some ⟨Bp, 0, none⟩)] pgV (KeepD R) (fun ys => ys = B.map (·.1)) (fun ys => ys <+: B.map (·.1)) (B.map (·.1)).length W := by
    intro n W R D hn hW hst hD hR
    exact pages_seq n R D Bp gf lb B W hn hst h.eg hD (fun k hk => (hR k hk).1) (fun W' hW' => h.seq _ W' R D (hW.trans (hW'.mono hW.size)) hst.stab (Nat.le_trans hD hW'.size)
      (fun k hk => by
        have := hR k ((hst.stab.below _ _ hD hW' k).1 hk)
        exact ⟨Nat.lt_of_lt_of_le this.1 hW'.size, this.2⟩)) ((hW.cell (World.block_lt_of_cell? w _ hq)).trans hq)
  refine ⟨fun W hW => ?_, seq⟩
  have hlen := h.len
  have := callsIn_wide.1 (lpages_gen 4 65 #[.pointer (some ⟨Bp, 0, none⟩)] (B.map (·.1)) 1024 W (by omega) (enters_of Try.func65 (by kernel_rfl) rfl) (by rw [List.length_map]; omega) fun bo V h1 h2 hV hx =>
    seq 3 V (rowR bo) (bo + 1) (Nat.le_refl _) (hW.trans (hV.mono hW.size)) (rowR_stabG (by omega)) (by omega) (fun k hk => by
      have := rowR_only h1 h2 hx k hk
      exact ⟨this.1, Nat.le_trans hW.size this.2⟩))
  have e : lgR 1024 (B.map (·.1)) = (B.map (·.1), true) := by unfold lgR; rw [if_pos (by rw [List.length_map]; omega)]
  rw [e] at this
  exact this
theorem GoodQ.later {Bp : Nat} {A : List Nat} {w w' : World} (h : GoodQ Bp A w) (hb : Below w.heap.size w w') : GoodQ Bp A w' :=
  ⟨fun W hW => h.lp W (hb.trans (hW.mono hb.size)), fun n W R D hn hW hs hd hr => h.seq n W R D hn (hb.trans (hW.mono hb.size)) hs hd fun k hk => ⟨(hr k hk).1, Nat.le_trans hb.size (hr k hk).2⟩⟩
/-- What Pages goes through. -/
def pgsR (l : List (Int × Int)) : List Nat := if checkR l = 0 then pagesL (down l) else []
theorem pgsR_eq (l : List (Int × Int)) : (pcR l 1).map (·.1) = pgsR l := by
  unfold pcR pgsR
  by_cases h : checkR l = 0
  · rw [if_pos h, if_pos ⟨h, by omega, by omega⟩]; exact pages_one _
  · rw [if_neg h, if_neg (fun x => h x.1)]; rfl
def PgsPost (A : List Nat) (w : World) (e : Ending) (w' : World) : Prop := ∃ Bp, e = .returned (.func (.func 65) #[] #[.pointer (some ⟨Bp, 0, none⟩)]) ∧ Below w.heap.size w w' ∧ GoodQ Bp A w'
set_option maxHeartbeats 2000000 in
set_option maxRecDepth 100000 in
theorem pages_any (l : List (Int × Int)) (p : Option Addr) (cap : Nat) (w : World) (h : SpsAt w p l) : Calls Try.prog 36 #[.slice p l.length cap] w (PgsPost (pgsR l) w) := by
  rw [← pgsR_eq]
  have CP := Lib.hid (pieces_any l p cap 1 w h)
  generalize pcR l 1 = B at CP ⊢
  clear h
  go_enter Try.func36, Try.ntmps36
  go_wp2_with fail
  refine CP.out.mono ?_
  rintro e w1 ⟨gf, lb, rfl, hb, hg⟩
  have HB := Lib.hid hb; have HG := Lib.hid hg
  clear hb hg
  go_wp2_with fail
  go_ret
  have hz4 := heap_alloc_new w1 (.cells #[.func (.func gf) #[] lb] 46)
  have hbe : Below w1.heap.size w1 (w1.alloc (.cells #[.func (.func gf) #[] lb] 46)) := (Below.refl _ _).alloc (Nat.le_refl _) _
  exact ⟨w1.heap.size, rfl, below_next HB.out hbe, goodQ_of (HG.out.later hbe) (row_cell hz4 rfl)⟩
end Go.Proofs.Ytnhbilcpdombfaa
