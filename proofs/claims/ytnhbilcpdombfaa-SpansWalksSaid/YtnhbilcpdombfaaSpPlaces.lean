/- spans: places, the iterator over the places. -/
import Derived.Test.YtnhbilcpdombfaaSpIter
import Derived.Stop.RegionWithIn
namespace Go.Proofs.Ytnhbilcpdombfaa
open Go.RowKit Go.Shelf
attribute [local go_sem] Oper.semAt_some

theorem region_class {F : Fence} {n : Nat} {P : Program} {C : World → Prop} {id : Nat} {Q : Exit → Act → World → Prop} {a : Act} {w : World} {l : List Oper} (hro : F.round = none) (hm : P.follows .mixedOrders = true) (hB : Region.lexB .any l.toArray = true) (hC : C w.drew)
    (h : wpQuietIn F n P l.toArray C (fun a' => ∀ w', C w' → Q .normal a' w') l a) : (Code.region id l.toArray true).wpIn F n P Q a w :=
  wpIn_region_quiet (C := C) hro hm hB hC (by simpa using h)
/-- The least place in a span. -/
def atP (align : Nat) (x : Nat × Nat) : Nat := (x.1 + align - 1) / align * align
def fitsP (pages align : Nat) (x : Nat × Nat) : Bool := decide (atP align x + pages ≤ x.1 + x.2)
def placeV (align : Nat) (x : Nat × Nat) : Array Value := #[.int .i64 (atP align x : Int), .agg #[.int .i64 (x.1 : Int), .int .i64 (x.2 : Int)]]
theorem places_any (p : Option Addr) (len cap : Nat) (pages align : Int) (w : World) : Calls Try.prog 63 #[.slice p len cap, .int .i64 pages, .int .i64 align] w fun e w' =>
    e = .returned (.func (.func 70) #[] #[.pointer (some ⟨w.heap.size, 0, none⟩), .pointer (some ⟨w.heap.size + 1 + 1, 0, none⟩), .pointer (some ⟨w.heap.size + 1, 0, none⟩)]) ∧
    w' = ((w.alloc (.cells #[.slice p len cap] 22)).alloc (.cells #[.int .i64 pages] 3)).alloc (.cells #[.int .i64 align] 3) := by
  go_enter Try.func63, Try.ntmps63
  go_wp2
  go_ret
  exact ⟨rfl, rfl⟩
/-- What the iterator reads. -/
structure PReads (S : Nat → Prop) (D B pages align : Nat) (p : Option Addr) (cap : Nat) (s : List (Nat × Nat)) (W : World) : Prop where
  dl : D ≤ W.heap.size
  box : W.heap[B]? = some (.cells #[.slice p s.length cap] 22 (0, 0))
  pbox : W.heap[B + 1]? = some (.cells #[.int .i64 (pages : Int)] 3 (0, 0))
  abox : W.heap[B + 1 + 1]? = some (.cells #[.int .i64 (align : Int)] 3 (0, 0))
  sps : SpsAt W p (up s)
/-- The blocks that it reads are none of those that may be written. -/
structure PFree (S : Nat → Prop) (D B : Nat) (p : Option Addr) (s : List (Nat × Nat)) : Prop where
  b0 : B + 2 < D
  n0 : ¬ S B
  n1 : ¬ S (B + 1)
  n2 : ¬ S (B + 1 + 1)
  wd : 0 < s.length → ∀ g off, p = some ⟨g, off, none⟩ → g < D ∧ ¬ S g
theorem PReads.later {S : Nat → Prop} {D B pages align : Nat} {p : Option Addr} {cap : Nat} {s : List (Nat × Nat)} {W W' : World} (h : PReads S D B pages align p cap s W) (hf : PFree S D B p s) (hb : BelowS S D W W') : PReads S D B pages align p cap s W' := by
  have h0 := hf.b0
  refine ⟨Nat.le_trans h.dl hb.size, (hb.block _ (by omega) hf.n0).trans h.box, (hb.block _ (by omega) hf.n1).trans h.pbox, (hb.block _ (by omega) hf.n2).trans h.abox, h.sps.len, h.sps.fit, fun hl => ?_⟩
  obtain ⟨g, off, e, hg, hc⟩ := h.sps.at_ hl
  obtain ⟨h1, h2⟩ := hf.wd (by rw [up_len] at hl; exact hl) g off e
  have hbl := hb.block g h1 h2
  exact ⟨g, off, e, Nat.lt_of_lt_of_le hg hb.size, fun j hj => ⟨(World.cell?_of_block (w := W) hbl).trans (hc j hj).1, (World.cell?_of_block (w := W) hbl).trans (hc j hj).2⟩⟩
set_option maxRecDepth 100000 in
set_option maxHeartbeats 16000000 in
theorem places1_in (n : Nat) (S : Nat → Prop) (D B pages k cap ly : Nat) (p : Option Addr) (s : List (Nat × Nat)) (hs : IsSet 1024 s) (hl : s.length ≤ 512) (hp : pages ≤ 1024) (hk : k ≤ 10) (hf : PFree S D B p s)
    (J Jx : List (Nat × Nat) → World → Prop) (W : World) (hL : LoopsV (placeV (2 ^ k)) (n - 1) S D ly (s.filter (fitsP pages (2 ^ k))).length J Jx W.heap.size) (hR : PReads S D B pages (2 ^ k) p cap s W) (h0 : J [] W) :
    CallsIn Fence.wide n Try.prog 70 #[.func (.yield ly) #[] #[], .pointer (some ⟨B, 0, none⟩), .pointer (some ⟨B + 1 + 1, 0, none⟩), .pointer (some ⟨B + 1, 0, none⟩)] W (IterPost (s.filter (fitsP pages (2 ^ k))) J Jx) := by
  refine callsIn_of_wp Try.func70 rfl trivial ?_ rfl
  simp only [Try.ntmps70, List.size_toArray, List.length_cons, List.length_nil, Nat.reduceAdd, Nat.reduceSub, Array.replicate_succ, Array.replicate_zero, List.push_toArray, List.append_toArray, List.nil_append, List.cons_append]
  have b0 := cell_of_row1 hR.box
  have HR := Lib.hid hR; have HL := Lib.hid hL; have HJ := Lib.hid h0; have HF := Lib.hid hf; have HS := Lib.hid hs
  clear hR hL h0 hf hs
  have hwf : ∀ f, Fence.wide.fn f := fun _ => trivial
  have hwd : Fence.wide.depth.isSome = false := rfl
  have l4 : (s.length : Int) ≤ 512 := by omega
  gi_wp2
  gi_loopg [10] s.length (fun n1 i W1 => ∃ j : Nat, j + n1 = s.length ∧ i = .int .i64 j ∧ J ((s.take j).filter (fitsP pages (2 ^ k))) W1 ∧ PReads S D B pages (2 ^ k) p cap s W1)
  case atStart => exact ⟨0, by omega, by go_num, by simpa using HJ.out, HR.out⟩
  case round =>
    clear b0 HJ HR
    obtain ⟨j, hjn, rfl, hj, hr⟩ := hrel
    obtain ⟨wx, rfl⟩ : ∃ wx : World, wx = wr := ⟨_, rfl⟩
    have HJ := Lib.hid hj; have HR := Lib.hid hr
    clear hj hr
    have j0 : (0 : Int) ≤ j := by omega
    by_cases hlt : j < s.length
    · obtain ⟨n', rfl⟩ : ∃ n', gk = n' + 1 := ⟨gk - 1, by omega⟩
      obtain ⟨g, off, rfl, hg, hc⟩ := HR.out.sps.at_ (by rw [up_len]; omega)
      obtain ⟨x0, x1⟩ := hc j (by rw [up_len]; exact hlt)
      rw [up_get] at x0 x1
      obtain ⟨v1, v2⟩ := HS.out.run _ (List.getElem_mem hlt)
      have htk : s.take (j + 1) = s.take j ++ [s[j]'hlt] := by rw [List.take_add_one, List.getElem?_eq_getElem hlt]; rfl
      have hflt : (s.take (j + 1)).filter (fitsP pages (2 ^ k)) = (s.take j).filter (fitsP pages (2 ^ k)) ++ [s[j]'hlt].filter (fitsP pages (2 ^ k)) := by rw [htk, List.filter_append]
      have hpre : (s.take (j + 1)).filter (fitsP pages (2 ^ k)) <+: s.filter (fitsP pages (2 ^ k)) := (List.take_prefix (j + 1) s).filter _
      have b1 := cell_of_row1 HR.out.pbox
      have b2 := cell_of_row1 HR.out.abox
      generalize s[j]'hlt = x at x0 x1 v1 v2 hflt
      obtain ⟨a, b⟩ := x
      simp only at x0 x1 v1 v2
      have i1 : (j : Int) < s.length := by omega
      obtain ⟨al, hal⟩ : ∃ al, al = 2 ^ k := ⟨_, rfl⟩
      have hal1 : 1 ≤ al := by rw [hal]; exact Nat.one_le_two_pow
      have hal2 : al ≤ 1024 := by
        have : 2 ^ k ≤ 2 ^ 10 := Nat.pow_le_pow_right (by omega) hk
        rw [hal]; simpa using this
      have hand := i64_andNot_pow (a + al - 1) k (by omega) hk
      rw [← hal] at hand b2 hflt hpre HL HJ HR ⊢
      have e1 : IntKind.i64.wrap ((a : Int) + (al : Int)) = (a : Int) + (al : Int) := IntWalk.i64_in _ (by omega)
      have e2 : IntKind.i64.wrap ((a : Int) + (al : Int) - 1) = (a : Int) + (al : Int) - 1 := IntWalk.i64_in _ (by omega)
      have e3 : IntKind.i64.wrap ((al : Int) - 1) = (al : Int) - 1 := IntWalk.i64_in _ (by omega)
      rw [show ((a + al - 1 : Nat) : Int) = (a : Int) + (al : Int) - 1 by omega, show ((al - 1 : Nat) : Int) = (al : Int) - 1 by omega] at hand
      obtain ⟨q, hq⟩ : ∃ q, q = (a + al - 1) / al * al := ⟨_, rfl⟩
      have hq4 : q ≤ 2048 := by have := Nat.div_mul_le_self (a + al - 1) al; omega
      rw [← hq] at hand
      have hat : atP al (a, b) = q := by rw [hq]; rfl
      obtain ⟨e, he⟩ : ∃ e, e = a + b := ⟨_, rfl⟩
      have CE := Lib.hid (fun W => end_nat a b e he (by omega) W)
      have e4 : IntKind.i64.wrap ((q : Int) + (pages : Int)) = (q : Int) + (pages : Int) := IntWalk.i64_in _ (by omega)
      have hfit : fitsP pages al (a, b) = decide (q + pages ≤ e) := by unfold fitsP; rw [hat, he]
      have HX := Lib.hid (show ∀ o, Below wx.heap.size wx (wx.alloc o).drew from fun o => ((Below.refl _ _).alloc (Nat.le_refl _) _).trans (drewOne _ _))
      have HFL := Lib.hid hflt; have HPRE := Lib.hid hpre; have HQ := Lib.hid hq; have HAT := Lib.hid hat; have HFIT := Lib.hid hfit; have HE := Lib.hid he; have HAL := Lib.hid hal
      have hd := HR.out.dl
      have hb0 := HF.out.b0
      have HRX := Lib.hid (show ∀ o, PReads S D B pages al (some ⟨g, off, none⟩) cap s (wx.alloc o) from fun o => HR.out.later HF.out (BelowS.of (((Below.refl _ _).alloc (Nat.le_refl _) o).mono hd)))
      have HJX := Lib.hid (show ∀ o, J ((s.take j).filter (fitsP pages al)) (wx.alloc o) from fun o => HL.out.jb _ _ _ none HJ.out (grownBy_of_below ((Below.refl _ _).alloc (Nat.le_refl _) o) none) (fun r e => by cases e))
      have c1 := cell_of_row1 (HRX.out (.cells #[.int .i64 (a : Int), .int .i64 (b : Int)] 31)).pbox
      have c2 := cell_of_row1 (HRX.out (.cells #[.int .i64 (a : Int), .int .i64 (b : Int)] 31)).abox
      clear hc htk hflt hpre hq hat hfit he hal v1 v2 b1 b2
      gi_wp2
      have hbox := heap_alloc_new wx (.cells #[.int .i64 (a : Int), .int .i64 (b : Int)] 31)
      have hbz : wx.heap.size < (wx.alloc (.cells #[.int .i64 (a : Int), .int .i64 (b : Int)] 31)).heap.size := by simp
      have HRV := Lib.hid (HRX.out (.cells #[.int .i64 (a : Int), .int .i64 (b : Int)] 31))
      have HJV := Lib.hid (HJX.out (.cells #[.int .i64 (a : Int), .int .i64 (b : Int)] 31))
      generalize wx.alloc (.cells #[.int .i64 (a : Int), .int .i64 (b : Int)] 31) = wv at hbox hbz HRV HJV c1 c2 ⊢
      obtain ⟨Bx, hBx⟩ : ∃ Bx, Bx = wx.heap.size := ⟨_, rfl⟩
      rw [← hBx] at hbox hbz ⊢
      have HBOX := Lib.hid hbox
      clear c2 HRX HJX HJ HR HX x0 x1 hbox hBx
      have c1' : wv.drew.cell? ⟨B + 1, 0, none⟩ = some (.int .i64 (pages : Int)) := c1
      have d0' : wv.drew.cell? ⟨Bx, 0, none⟩ = some (.int .i64 (a : Int)) := row_cell HBOX.out rfl
      have d1' : wv.drew.cell? ⟨Bx, 1, none⟩ = some (.int .i64 (b : Int)) := row_cell HBOX.out rfl
      by_cases hfits : q + pages ≤ e
      · have t0 : decide ((q : Int) + (pages : Int) ≤ (e : Int)) = true := decide_eq_true (by omega)
        have t1 : (q : Int) + (pages : Int) ≤ (e : Int) := by omega
        have hsp : ((s.take j).filter (fitsP pages al)).length < (s.filter (fitsP pages al)).length := by
          have := HPRE.out.length_le
          rw [HFL.out, List.length_append] at this
          have h1 : ([(a, b)].filter (fitsP pages al)).length = 1 := by rw [List.filter_cons, HFIT.out, decide_eq_true hfits]; rfl
          omega
        have hF1 : (s.take (j + 1)).filter (fitsP pages al) = (s.take j).filter (fitsP pages al) ++ [(a, b)] := by
          rw [HFL.out, List.filter_cons, HFIT.out, decide_eq_true hfits]; rfl
        have HSP := Lib.hid hsp; have HF1 := Lib.hid hF1
        clear hsp hF1
        gi_region_with (first
          | (gi_at_call 52; refine (callsIn_wide.2 (CE.out _)).mono ?_; rintro e' w1 ⟨rfl, hb⟩
             have HB1 := Lib.hid hb
             have HR1 := Lib.hid (HRV.out.later HF.out (BelowS.of (((drewOne _ _).trans hb).mono HRV.out.dl)))
             have hy := yield_bool (HL.out.yield _ (a, b) _ (HL.out.grow HJV.out ((drewOne _ _).trans hb)) HSP.out)
             have f1 := cell_of_row1 HR1.out.pbox
             have hq := (hb.block _ hbz).trans HBOX.out
             have f2 := row_cell (i := 0) hq rfl
             have f3 := row_cell (i := 1) hq rfl
             unfold placeV at hy
             rw [HAT.out] at hy
             obtain ⟨fn2, tmps2, assign2, body2, hy, hY⟩ := hy
             clear hb hq c1 c1' d0' d1')
          | (refine hY.mono ?_; clear hy; rintro e' w2 ⟨y, rfl, hpost⟩; have HPOST := Lib.hid hpost; clear hpost hY))
        all_goals
          have hp := HPOST.out
          rcases hp with ⟨rfl, hj2, hk2⟩ | ⟨rfl, hjx⟩
          · have HJ2 := Lib.hid hj2
            have HR2 := Lib.hid (HR1.out.later HF.out hk2)
            clear hj2 hk2 HPOST f1 f2 f3
            gi_wp2
            gi_roundg n'
            case measure => omega
            case rel => exact ⟨j + 1, by omega, by go_num, by rw [← HAL.out, HF1.out]; exact HJ2.out, by rw [← HAL.out]; exact HR2.out⟩
          · have HJX := Lib.hid hjx
            clear hjx HPOST f1 f2 f3
            gi_wp2
            refine bodyPost_ret (results_none rfl _ _ _) rfl ?_
            exact iter_stop _ (by have := HPRE.out; rw [HF1.out] at this; exact this) HJX.out
      · have t0 : decide ((q : Int) + (pages : Int) ≤ (e : Int)) = false := decide_eq_false (by omega)
        have t1 : ¬ (q : Int) + (pages : Int) ≤ (e : Int) := by omega
        have hF1 : (s.take (j + 1)).filter (fitsP pages al) = (s.take j).filter (fitsP pages al) := by
          rw [HFL.out, List.filter_cons, HFIT.out, decide_eq_false hfits]; simp
        have HF1 := Lib.hid hF1
        clear hF1
        refine region_class (C := fun w' => Below wv.heap.size wv w') rfl (by kernel_rfl) (by kernel_rfl) (drewOne _ _) ?_
        refine BigFrame.wpQuietIn_want (fun _ _ _ _ => trivial) rfl (fun K hK => BigFrame.quietIn_move _ rfl (hK _ ?_)); clear hK K; go_simp
        refine BigFrame.wpQuietIn_want (fun _ _ _ _ => trivial) rfl (fun K hK => ⟨.int .i64 (pages : Int), fun w' hw' => ?_, hK _ ?_⟩)
        · have hc := (hw'.cell (p := ⟨B + 1, 0, none⟩) (by show B + 1 < _; have := HRV.out.dl; omega)).trans c1
          unfold Oper.quietAtIn
          simp [go_sem, hc, Oper.quietUponIn]
        clear hK K; go_simp
        refine BigFrame.wpQuietIn_want (fun _ _ _ _ => trivial) rfl (fun K hK => ⟨.int .i64 ((q : Int) + (pages : Int)), fun w' hw' => ?_, hK _ ?_⟩)
        · unfold Oper.quietAtIn
          simp [go_sem, e4, Oper.quietUponIn]
        clear hK K; go_simp
        refine BigFrame.wpQuietIn_want (fun _ _ _ _ => trivial) rfl (fun K hK => ⟨.agg #[.int .i64 (a : Int), .int .i64 (b : Int)], fun w' hw' => ?_, hK _ ?_⟩)
        · have h0 := (hw'.cell (p := ⟨Bx, 0, none⟩) hbz).trans d0'
          have h1 := (hw'.cell (p := ⟨Bx, 1, none⟩) hbz).trans d1'
          unfold Oper.quietAtIn
          simp [go_sem, h0, h1, Oper.quietUponIn]
        clear hK K; go_simp
        refine BigFrame.wpQuietIn_want (fun _ _ _ _ => trivial) rfl (fun K hK => ⟨.int .i64 (e : Int), fun w' hw' => ?_, hK _ ?_⟩)
        · unfold Oper.quietAtIn
          simp [go_sem, Oper.quietUponIn]
          refine ⟨fun h => (by rw [hwd] at h; cases h), ?_⟩
          refine (callsIn_wide.2 (CE.out _)).mono ?_
          rintro e' w1 ⟨rfl, hb⟩
          exact ⟨rfl, hw'.trans (hb.mono hw'.size)⟩
        clear hK K; go_simp
        refine BigFrame.wpQuietIn_want (fun _ _ _ _ => trivial) rfl (fun K hK => ⟨.bool false, fun w' hw' => ?_, hK _ ?_⟩)
        · unfold Oper.quietAtIn
          simp [go_sem, t1, Oper.quietUponIn]
        clear hK K; go_simp
        refine BigFrame.wpQuietIn_want (fun _ _ _ _ => trivial) rfl (fun K hK => BigFrame.quietIn_move _ rfl (hK _ ?_)); clear hK K; go_simp
        refine BigFrame.wpQuietIn_skip (fun _ _ _ _ => trivial) rfl ?_; go_simp
        refine BigFrame.wpQuietIn_skip (fun _ _ _ _ => trivial) rfl ?_; go_simp
        refine BigFrame.wpQuietIn_skip (fun _ _ _ _ => trivial) rfl ?_; go_simp
        refine BigFrame.wpQuietIn_skip (fun _ _ _ _ => trivial) rfl ?_; go_simp
        refine BigFrame.wpQuietIn_skip (fun _ _ _ _ => trivial) rfl ?_; go_simp
        refine BigFrame.wpQuietIn_want (fun _ _ _ _ => trivial) rfl (fun K hK => ⟨.bool false, fun w' hw' => ?_, hK _ ?_⟩)
        · unfold Oper.quietAtIn
          simp [go_sem, Oper.quietUponIn]
        clear hK K; go_simp
        refine wpQuietIn_nil ?_
        intro w1 hb
        have HR1 := Lib.hid (HRV.out.later HF.out (BelowS.of (hb.mono HRV.out.dl)))
        have HJ1 := Lib.hid (HL.out.grow HJV.out hb)
        clear hb c1 c1' d0' d1'
        gi_wp2
        gi_roundg n'
        case measure => omega
        case rel => exact ⟨j + 1, by omega, by go_num, by rw [← HAL.out, HF1.out]; exact HJ1.out, by rw [← HAL.out]; exact HR1.out⟩
    · obtain rfl : j = s.length := by omega
      have hj := HJ.out
      rw [List.take_length] at hj
      have HJE := Lib.hid hj
      have i1 : ¬ ((s.length : Nat) : Int) < s.length := by omega
      clear hj
      gi_wp2
      go_end0
      exact iter_done HJE.out
end Go.Proofs.Ytnhbilcpdombfaa
