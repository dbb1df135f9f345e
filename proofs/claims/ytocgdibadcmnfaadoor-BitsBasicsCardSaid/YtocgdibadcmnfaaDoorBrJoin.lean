/- The reference's both, And, Or, Less. -/
import Derived.Test.YtocgdibadcmnfaaDoorBrFlip
import Derived.Test.YtocgdibadcmnfaaDoorBtJoin
import Derived.Deep.DeepCutAuto
import Derived.Deep.RegionHeld3
namespace Go.Proofs.YtocgdibadcmnfaaDoor
open Go.RowKit Go.Shelf
/-- What is wrong with two bitmaps. -/
def bothR (n : Int) (ws : List Nat) (n' : Int) (vs : List Nat) : Int := if checkR n ws ≠ 0 then checkR n ws else if checkR n' vs ≠ 0 then checkR n' vs else if n ≠ n' then 2 else 0
theorem joinR_eq (g : Bool → Bool → Bool) (n : Int) (ws : List Nat) (n' : Int) (vs : List Nat) : joinR g n ws n' vs = if bothR n ws n' vs ≠ 0 then ((0, []), bothR n ws n' vs) else ((n.toNat, packR n.toNat fun i => g (bitN ws i) (bitN vs i)), 0) := by
  unfold joinR bothR
  by_cases h1 : checkR n ws ≠ 0
  · simp [h1]
  · rw [if_neg h1, if_neg h1]
    by_cases h2 : checkR n' vs ≠ 0
    · simp [h2]
    · rw [if_neg h2, if_neg h2]
      by_cases h3 : n ≠ n'
      · simp [h3]
      · simp [h3]
theorem bothR_ok {n : Int} {ws : List Nat} {n' : Int} {vs : List Nat} (h1 : ∀ x ∈ ws, x < 2 ^ 64) (h2 : ∀ x ∈ vs, x < 2 ^ 64) (h : bothR n ws n' vs = 0) : ∃ m : Nat, n = (m : Int) ∧ n' = (m : Int) ∧ Valid m ws ∧ Valid m vs := by
  unfold bothR at h
  by_cases c1 : checkR n ws ≠ 0
  · rw [if_pos c1] at h; exact absurd h c1
  · rw [if_neg c1] at h
    by_cases c2 : checkR n' vs ≠ 0
    · rw [if_pos c2] at h; exact absurd h c2
    · rw [if_neg c2] at h
      by_cases c3 : n ≠ n'
      · rw [if_pos c3] at h; exact absurd h (by decide)
      · obtain ⟨a1, a2⟩ := checkR_ok h1 (Classical.not_not.1 c1)
        obtain ⟨b1, b2⟩ := checkR_ok h2 (Classical.not_not.1 c2)
        have e : n = n' := Classical.not_not.1 c3
        subst e
        exact ⟨n.toNat, by omega, by omega, a2, b2⟩
set_option maxHeartbeats 2000000 in
set_option maxRecDepth 100000 in
theorem rboth_any (n : Int) (p : Option Addr) (cap : Nat) (ws : List Nat) (n' : Int) (p' : Option Addr) (cap' : Nat) (vs : List Nat) (w : World) (h : WordsAt w p ws) (h' : WordsAt w p' vs) :
    Calls Tryd.prog 69 #[.agg #[.int .i64 n, .slice p ws.length cap], .agg #[.int .i64 n', .slice p' vs.length cap']] w (ErrPost (bothR n ws n' vs) w) := by
  have ck := fun W (hW : Below w.heap.size w W) => rcheck_any n p cap ws W (h.below hW)
  have ck' := fun W (hW : Below w.heap.size w W) => rcheck_any n' p' cap' vs W (h'.below hW)
  have e : bothR n ws n' vs = if checkR n ws ≠ 0 then checkR n ws else if checkR n' vs ≠ 0 then checkR n' vs else if n ≠ n' then 2 else 0 := rfl
  generalize checkR n ws = c at ck e
  generalize checkR n' vs = c' at ck' e
  generalize bothR n ws n' vs = r at e
  have CK := Lib.hid ck; have CK' := Lib.hid ck'
  have A2 := Lib.hid (fun o1 o2 => (alloc2 w o1 o2).1)
  have R1 := Lib.hid (fun (o : Obj) (x y : Value) => (Res2.new w x y 24).below ((Below.refl _ _).alloc (Nat.le_refl _) o))
  have R2 := Lib.hid (fun (o : Obj) (x y : Value) => Res2.new1 w o x y 24)
  clear ck ck' h h'
  by_cases hc : c ≠ 0
  · rw [if_pos hc] at e
    have E := Lib.hid e
    obtain ⟨t1, t2⟩ := neq0 hc
    clear e hc
    go_enter Tryd.func69, Tryd.ntmps69
    go_wp2_with fail
    refine (CK.out _ (A2.out _ _)).mono ?_
    rintro e w1 ⟨rfl, hb⟩
    have HB1 := Lib.hid ((A2.out _ _).trans (hb.mono (A2.out _ _).size))
    clear hb
    go_wp2_with fail
    go_ret
    exact errPost_mk E.out HB1.out
  · obtain rfl : c = 0 := Classical.not_not.1 hc
    rw [if_neg (by simp)] at e
    by_cases hc' : c' ≠ 0
    · rw [if_pos hc'] at e
      have E := Lib.hid e
      obtain ⟨t1, t2⟩ := neq0 hc'
      clear e hc hc'
      go_enter Tryd.func69, Tryd.ntmps69
      go_wp2_with fail
      refine (CK.out _ (A2.out _ _)).mono ?_
      rintro e w1 ⟨rfl, hb⟩
      have HB1 := Lib.hid ((A2.out _ _).trans (hb.mono (A2.out _ _).size))
      have HY1 := Lib.hid ((R2.out _ (.int .i64 n') (.slice p' vs.length cap')).below hb)
      clear hb
      have d0 := HY1.out.k0; have d1 := HY1.out.k1
      go_wp2_with fail
      refine (CK'.out _ HB1.out).mono ?_
      rintro e w2 ⟨rfl, hb⟩
      have HB2 := Lib.hid (HB1.out.trans (hb.mono HB1.out.size))
      clear hb d0 d1
      go_wp2_with fail
      go_ret
      exact errPost_mk E.out HB2.out
    · obtain rfl : c' = 0 := Classical.not_not.1 hc'
      rw [if_neg (by simp)] at e
      have h3 : (n ≠ n' ∧ (n != n') = true ∧ r = 2) ∨ (n = n' ∧ r = 0) := by
        by_cases h3 : n ≠ n'
        · rw [if_pos h3] at e; exact .inl ⟨h3, by simpa using h3, e⟩
        · rw [if_neg h3] at e; exact .inr ⟨Classical.not_not.1 h3, e⟩
      clear e hc hc'
      rcases h3 with ⟨h3, t3, e⟩ | ⟨h3, e⟩
      · have E := Lib.hid e
        clear e
        go_enter Tryd.func69, Tryd.ntmps69
        go_wp2_with fail
        refine (CK.out _ (A2.out _ _)).mono ?_
        rintro e w1 ⟨rfl, hb⟩
        have HB1 := Lib.hid ((A2.out _ _).trans (hb.mono (A2.out _ _).size))
        have HX1 := Lib.hid ((R1.out _ (.int .i64 n) (.slice p ws.length cap)).below hb)
        have HY1 := Lib.hid ((R2.out _ (.int .i64 n') (.slice p' vs.length cap')).below hb)
        clear hb
        have d0 := HY1.out.k0; have d1 := HY1.out.k1
        go_wp2_with fail
        refine (CK'.out _ HB1.out).mono ?_
        rintro e w2 ⟨rfl, hb⟩
        have HB2 := Lib.hid (HB1.out.trans (hb.mono HB1.out.size))
        have HX2 := Lib.hid (HX1.out.below hb); have HY2 := Lib.hid (HY1.out.below hb)
        clear hb d0 d1
        have c0 := HX2.out.k0; have d0 := HY2.out.k0
        go_wp2_with fail
        go_ret
        exact errPost_mk E.out HB2.out
      · subst h3
        have E := Lib.hid e
        have t3 : (n != n) = false := by simp
        clear e
        go_enter Tryd.func69, Tryd.ntmps69
        go_wp2_with fail
        refine (CK.out _ (A2.out _ _)).mono ?_
        rintro e w1 ⟨rfl, hb⟩
        have HB1 := Lib.hid ((A2.out _ _).trans (hb.mono (A2.out _ _).size))
        have HX1 := Lib.hid ((R1.out _ (.int .i64 n) (.slice p ws.length cap)).below hb)
        have HY1 := Lib.hid ((R2.out _ (.int .i64 n) (.slice p' vs.length cap')).below hb)
        clear hb
        have d0 := HY1.out.k0; have d1 := HY1.out.k1
        go_wp2_with fail
        refine (CK'.out _ HB1.out).mono ?_
        rintro e w2 ⟨rfl, hb⟩
        have HB2 := Lib.hid (HB1.out.trans (hb.mono HB1.out.size))
        have HX2 := Lib.hid (HX1.out.below hb); have HY2 := Lib.hid (HY1.out.below hb)
        clear hb d0 d1
        have c0 := HX2.out.k0; have d0 := HY2.out.k0
        go_wp2_with fail
        go_ret
        exact errPost_mk E.out HB2.out

/-- What both lists are, behind their calls. -/
def ListsPost (f g : Nat → Bool) (m : Nat) (w1 : World) (a b : Value) (W : World) : Prop := ∃ pb cb pc cc N2, a = .slice pb m cb ∧ b = .slice pc m cc ∧ Below w1.heap.size w1 W ∧ W.ownsRow w1.heap.size 4 1 a m (boolC f m) ∧ BoolsAt W pc g m ∧ NewAt N2 pc ∧ ∀ g cg, a = .slice (some ⟨g, 0, none⟩) m cg → 0 < m → g < N2
theorem pairs_cells {W : World} {B B' : Nat} {x y x' y' : Value} (h : Res2 W B x y) (h' : Res2 W B' x' y') : W.drew.cell? ⟨B, 0, none⟩ = some x ∧ W.drew.cell? ⟨B, 1, none⟩ = some y ∧ W.drew.cell? ⟨B', 0, none⟩ = some x' ∧ W.drew.cell? ⟨B', 1, none⟩ = some y' := ⟨h.k0, h.k1, h'.k0, h'.k1⟩
theorem lists_mk {f g : Nat → Bool} {m : Nat} {w1 wa wb : World} {a b : Value} (h1 : Below w1.drew.heap.size w1.drew wa) (o1 : wa.ownsRow w1.drew.heap.size 4 1 a m (boolC f m)) (h2 : Below wa.heap.size wa wb) (o2 : wb.ownsRow wa.heap.size 4 1 b m (boolC g m)) : ListsPost f g m w1 a b wb := by
  have hd : Below w1.heap.size w1 wa := ((Below.refl w1.heap.size w1).drew).trans h1
  obtain ⟨pb, cb, rfl⟩ := own_slice o1
  obtain ⟨pc, cc, rfl, hbo, hnw⟩ := own_boolsN o2
  refine ⟨pb, cb, pc, cc, wa.heap.size, rfl, rfl, hd.trans (h2.mono hd.size), ownB_below o1 h2, hbo, hnw, fun g' cg e h0 => ?_⟩
  obtain ⟨g2, cg2, e2, _, hl, _⟩ := own_row o1 h0
  rw [e] at e2; cases e2; exact hl
theorem keep8 {W W' : World} {a b c d : Addr} {X Y Z U : Value} (hb : Below W.heap.size W W') (hS : W.cell? a = some X ∧ W.cell? b = some Y ∧ W.cell? c = some Z ∧ W.cell? d = some U) : W'.cell? a = some X ∧ W'.cell? b = some Y ∧ W'.cell? c = some Z ∧ W'.cell? d = some U :=
  ⟨(hb.cell (World.block_lt_of_cell? W _ hS.1)).trans hS.1, (hb.cell (World.block_lt_of_cell? W _ hS.2.1)).trans hS.2.1, (hb.cell (World.block_lt_of_cell? W _ hS.2.2.1)).trans hS.2.2.1, (hb.cell (World.block_lt_of_cell? W _ hS.2.2.2)).trans hS.2.2.2⟩
theorem below_next {w W W' : World} (h : Below w.heap.size w W) (k : Below W.heap.size W W') : Below w.heap.size w W' := h.trans (k.mono h.size)

set_option maxHeartbeats 4000000 in
set_option maxRecDepth 100000 in
theorem rand_any (n : Int) (p : Option Addr) (cap : Nat) (ws : List Nat) (n' : Int) (p' : Option Addr) (cap' : Nat) (vs : List Nat) (w : World) (h : WordsAt w p ws) (h' : WordsAt w p' vs) :
    Calls Tryd.prog 42 #[.agg #[.int .i64 n, .slice p ws.length cap], .agg #[.int .i64 n', .slice p' vs.length cap']] w (BtNew (joinR (fun a b => a && b) n ws n' vs) w) := by
  have ck := fun W (hW : Below w.heap.size w W) => rboth_any n p cap ws n' p' cap' vs W (h.below hW) (h'.below hW)
  unfold ErrPost at ck
  have e := joinR_eq (fun a b => a && b) n ws n' vs
  have hok := bothR_ok (n := n) (n' := n') h.lt h'.lt
  have HW := Lib.hid h; have HV := Lib.hid h'
  generalize bothR n ws n' vs = c at ck e hok
  generalize joinR (fun a b => a && b) n ws n' vs = r at e
  have CK := Lib.hid ck
  have A3 := Lib.hid (fun o1 o2 o3 => alloc3 w o1 o2 o3)
  have R0 := Lib.hid (fun o1 o2 => Res2.new2 w o1 o2 (.int .i64 0) (.slice none 0 0) 24)
  have R1 := Lib.hid (fun (o o' : Obj) (x y : Value) => ((Res2.new w x y 24).below ((Below.refl _ _).alloc (Nat.le_refl _) o)).below ((Below.refl _ _).alloc (Nat.le_refl _) o'))
  have R2 := Lib.hid (fun (o o' : Obj) (x y : Value) => (Res2.new1 w o x y 24).below ((Below.refl _ _).alloc (Nat.le_refl _) o'))
  clear ck h h'
  by_cases hc : c ≠ 0
  · rw [if_pos hc] at e
    obtain ⟨t1, t2⟩ := neq0 hc
    have E := Lib.hid e; clear e hc hok
    go_enter Tryd.func42, Tryd.ntmps42
    go_wp2_with fail
    refine (CK.out _ (A3.out _ _ _).1).mono ?_
    rintro e w1 ⟨rfl, hb⟩
    have HB := Lib.hid ((A3.out _ _ _).1.trans (hb.mono (A3.out _ _ _).1.size))
    obtain ⟨k0, k1, f0, f1, lt⟩ := (R0.out _ _).below hb
    clear hb
    go_wp2_with fail
    refine bodyPost_ret (v := .tuple #[.agg #[.int .i64 0, .slice none 0 0], .int .i64 c]) (by simp [results, Tryd.results42, go_sem, k0, k1, f0, f1]) rfl ?_
    exact btNew_err E.out (set2B HB.out (by omega) _ _)
  · obtain rfl : c = 0 := Classical.not_not.1 hc
    rw [if_neg hc] at e
    obtain ⟨m, rfl, rfl, hv, hv'⟩ := hok rfl
    rw [Int.toNat_natCast] at e
    have hm := hv.le
    have cl := fun W (hW : Below w.heap.size w W) q c us (h : WordsAt w q us) (hv : Valid m us) => rlist_any m q c us W (h.below hW) hv
    unfold ListPost at cl
    have CLL := Lib.hid cl; have E := Lib.hid e
    have HVW := Lib.hid hv; have HVV := Lib.hid hv'
    have m4 : (m : Int) ≤ 4096 := by omega
    clear e cl hok hc
    go_enter Tryd.func42, Tryd.ntmps42
    go_wp2_with fail
    refine (CK.out _ (A3.out _ _ _).1).mono ?_
    rintro e w1 ⟨rfl, hb⟩
    have HB1 := Lib.hid ((A3.out _ _ _).1.trans (hb.mono (A3.out _ _ _).1.size))
    have HX1 := Lib.hid ((R1.out _ _ (.int .i64 m) (.slice p ws.length cap)).below hb)
    have HY1 := Lib.hid ((R2.out _ _ (.int .i64 m) (.slice p' vs.length cap')).below hb)
    have HR1 := Lib.hid ((R0.out _ _).below hb)
    clear hb
    have hs0 := pairs_cells HX1.out HY1.out
    have hbd := Lib.hid (show Below w.heap.size w w1.drew from HB1.out.drew)
    have hr0 := HR1.out.lt
    go_upto_region 4 with fail
    go_cut [7, 8] (fun a b wx => ListsPost (bitN ws) (bitN vs) m w1 a b wx)
    case first =>
      go_region_held3 (fun W => W.cell? ⟨w.heap.size, 0, none⟩ = some (.int .i64 (m : Int)) ∧ W.cell? ⟨w.heap.size, 1, none⟩ = some (.slice p ws.length cap) ∧ W.cell? ⟨w.heap.size + 1, 0, none⟩ = some (.int .i64 (m : Int)) ∧ W.cell? ⟨w.heap.size + 1, 1, none⟩ = some (.slice p' vs.length cap')) (first | exact hs0 | exact keep8 hbz (by assumption)) (first
        | (go_at_call 54; refine Calls.mono (CLL.out _ ?hb _ _ _ ?hw ?hv) ?_; (case hb => exact hbd.out); (case hw => first | exact HW.out | exact HV.out); (case hv => first | exact HVW.out | exact HVV.out); rintro e wz ⟨vz, rfl, hbz, hoz⟩; have hbd := Lib.hid (below_next hbd.out hbz)))
      all_goals
        go_wp2_with fail
        go_meet
        exact lists_mk (by assumption) (by assumption) hbz hoz
    case rest =>
    obtain ⟨pb, cb, pc, cc, N2, rfl, rfl, hb, ho, hbo, hnw, hlow⟩ := hcut
    have HI := Lib.hid (show LInv w _ (w.heap.size + 1 + 1) w1.heap.size m (.slice pb m cb) (bitN ws) from ⟨HB1.out.trans (hb.mono HB1.out.size), HR1.out.below hb, ho⟩)
    have HC := Lib.hid hbo; have HN := Lib.hid hnw; have HLOW := Lib.hid hlow
    have hlt1 := HR1.out.lt
    clear hb ho hbo hnw hlow hs0 hbd hv hv'
    go_wp2_with fail

    go_loopg [9] m (fun n1 i wr => ∃ k : Nat, k + n1 = m ∧ i = .int .i64 k ∧ LInv w wr (w.heap.size + 1 + 1) w1.heap.size m (.slice pb m cb) (partF (bitN ws) (fun i => bitN ws i && bitN vs i) k) ∧ BoolsAt wr pc (bitN vs) m)
    case atStart => exact ⟨0, by omega, by go_num, by rw [partF_zero]; exact HI.out, HC.out⟩
    case round =>
      clear HI HC
      obtain ⟨k, hkn, rfl, hinv, hbs⟩ := hrel
      have HI := Lib.hid hinv; have HC := Lib.hid hbs
      clear hinv hbs
      have k0 : (0 : Int) ≤ k := by omega
      have k4 : (k : Int) ≤ 4096 := by omega
      by_cases hlt : k < m
      · obtain ⟨n', rfl⟩ : ∃ n', gk = n' + 1 := ⟨gk - 1, by omega⟩
        have i1 : (k : Int) < m := by omega
        obtain ⟨g, cg, hve, hg, d0, f5⟩ := HI.out.at_ hlt
        have hgl := HLOW.out g cg hve (by omega)
        obtain ⟨rfl, rfl⟩ : pb = some ⟨g, 0, none⟩ ∧ cb = cg := by cases hve; exact ⟨rfl, rfl⟩
        obtain ⟨g2, rfl, hg2, hcb⟩ := HC.out (by omega)
        have hge := HN.out g2 0 rfl
        have d1 := hcb k hlt
        have hpk : partF (bitN ws) (fun i => bitN ws i && bitN vs i) k k = bitN ws k := by simp [partF]
        rw [hpk] at d0
        have HS := Lib.hid (partF_set (bitN ws) (fun i => bitN ws i && bitN vs i) m k (bitN ws k && bitN vs k) rfl)
        have HST := Lib.hid (HI.out.store (k := k) (by omega) (by omega) hg HS.out)
        have HBS := Lib.hid (fun b => HC.out.set_other (B := g) (j := k) (u := .bool b) (fun g' off e => by cases e; omega))
        clear hpk hcb HS
        generalize bitN ws k = b1 at d0 HST
        generalize bitN vs k = b2 at d1 HST
        cases b1 <;> cases b2
        all_goals
          go_wp2_with fail
          go_roundg n'
          case measure => omega
          case rel => exact ⟨k + 1, by omega, by go_num, HST.out, HBS.out _⟩
      · obtain rfl : k = m := by omega
        have hrow := HI.out.row
        rw [partF_all] at hrow
        obtain ⟨p5, c5, hve, hbo, _⟩ := own_boolsN hrow
        obtain ⟨rfl, rfl⟩ : pb = p5 ∧ cb = c5 := by cases hve; exact ⟨rfl, rfl⟩
        have co := rOf_any (fun i => bitN ws i && bitN vs i) k pb cb wr hm hbo
        have CO := Lib.hid co
        have hI := HI.out.below.size
        clear co hbo hrow
        go_wp2_with fail
        refine CO.out.mono ?_
        rintro e w5 ⟨p', cap', rfl, hw', hn', hb⟩
        have HWS := Lib.hid hw'; have HNW := Lib.hid hn'
        have HB5 := Lib.hid (HI.out.below.trans (hb.mono HI.out.below.size))
        obtain ⟨k0, k1, f0, f1, lt⟩ := HI.out.res.below hb
        have hBl := HI.out.res.lt
        clear hb hw' hn'
        go_wp2_with fail
        refine bodyPost_ret (v := .tuple #[.agg #[.int .i64 k, .slice p' (lenW k) cap'], .int .i64 0]) (by simp [results, Tryd.results42, go_sem, k0, k1, f0, f1]) rfl ?_
        rw [← pack_len k (fun i => bitN ws i && bitN vs i)]
        exact btNew_mk E.out (HWS.out.set2 (fun g off e => by have := HNW.out g off e; omega) _ _) (fun g off e => by have := HNW.out g off e; omega) (set2B HB5.out (by omega) _ _)

set_option maxHeartbeats 4000000 in
set_option maxRecDepth 100000 in
theorem ror_any (n : Int) (p : Option Addr) (cap : Nat) (ws : List Nat) (n' : Int) (p' : Option Addr) (cap' : Nat) (vs : List Nat) (w : World) (h : WordsAt w p ws) (h' : WordsAt w p' vs) :
    Calls Tryd.prog 44 #[.agg #[.int .i64 n, .slice p ws.length cap], .agg #[.int .i64 n', .slice p' vs.length cap']] w (BtNew (joinR (fun a b => a || b) n ws n' vs) w) := by
  have ck := fun W (hW : Below w.heap.size w W) => rboth_any n p cap ws n' p' cap' vs W (h.below hW) (h'.below hW)
  unfold ErrPost at ck
  have e := joinR_eq (fun a b => a || b) n ws n' vs
  have hok := bothR_ok (n := n) (n' := n') h.lt h'.lt
  have HW := Lib.hid h; have HV := Lib.hid h'
  generalize bothR n ws n' vs = c at ck e hok
  generalize joinR (fun a b => a || b) n ws n' vs = r at e
  have CK := Lib.hid ck
  have A3 := Lib.hid (fun o1 o2 o3 => alloc3 w o1 o2 o3)
  have R0 := Lib.hid (fun o1 o2 => Res2.new2 w o1 o2 (.int .i64 0) (.slice none 0 0) 24)
  have R1 := Lib.hid (fun (o o' : Obj) (x y : Value) => ((Res2.new w x y 24).below ((Below.refl _ _).alloc (Nat.le_refl _) o)).below ((Below.refl _ _).alloc (Nat.le_refl _) o'))
  have R2 := Lib.hid (fun (o o' : Obj) (x y : Value) => (Res2.new1 w o x y 24).below ((Below.refl _ _).alloc (Nat.le_refl _) o'))
  clear ck h h'
  by_cases hc : c ≠ 0
  · rw [if_pos hc] at e
    obtain ⟨t1, t2⟩ := neq0 hc
    have E := Lib.hid e; clear e hc hok
    go_enter Tryd.func44, Tryd.ntmps44
    go_wp2_with fail
    refine (CK.out _ (A3.out _ _ _).1).mono ?_
    rintro e w1 ⟨rfl, hb⟩
    have HB := Lib.hid ((A3.out _ _ _).1.trans (hb.mono (A3.out _ _ _).1.size))
    obtain ⟨k0, k1, f0, f1, lt⟩ := (R0.out _ _).below hb
    clear hb
    go_wp2_with fail
    refine bodyPost_ret (v := .tuple #[.agg #[.int .i64 0, .slice none 0 0], .int .i64 c]) (by simp [results, Tryd.results44, go_sem, k0, k1, f0, f1]) rfl ?_
    exact btNew_err E.out (set2B HB.out (by omega) _ _)
  · obtain rfl : c = 0 := Classical.not_not.1 hc
    rw [if_neg hc] at e
    obtain ⟨m, rfl, rfl, hv, hv'⟩ := hok rfl
    rw [Int.toNat_natCast] at e
    have hm := hv.le
    have cl := fun W (hW : Below w.heap.size w W) q c us (h : WordsAt w q us) (hv : Valid m us) => rlist_any m q c us W (h.below hW) hv
    unfold ListPost at cl
    have CLL := Lib.hid cl; have E := Lib.hid e
    have HVW := Lib.hid hv; have HVV := Lib.hid hv'
    have m4 : (m : Int) ≤ 4096 := by omega
    clear e cl hok hc
    go_enter Tryd.func44, Tryd.ntmps44
    go_wp2_with fail
    refine (CK.out _ (A3.out _ _ _).1).mono ?_
    rintro e w1 ⟨rfl, hb⟩
    have HB1 := Lib.hid ((A3.out _ _ _).1.trans (hb.mono (A3.out _ _ _).1.size))
    have HX1 := Lib.hid ((R1.out _ _ (.int .i64 m) (.slice p ws.length cap)).below hb)
    have HY1 := Lib.hid ((R2.out _ _ (.int .i64 m) (.slice p' vs.length cap')).below hb)
    have HR1 := Lib.hid ((R0.out _ _).below hb)
    clear hb
    have hs0 := pairs_cells HX1.out HY1.out
    have hbd := Lib.hid (show Below w.heap.size w w1.drew from HB1.out.drew)
    have hr0 := HR1.out.lt
    go_upto_region 4 with fail
    go_cut [7, 8] (fun a b wx => ListsPost (bitN ws) (bitN vs) m w1 a b wx)
    case first =>
      go_region_held3 (fun W => W.cell? ⟨w.heap.size, 0, none⟩ = some (.int .i64 (m : Int)) ∧ W.cell? ⟨w.heap.size, 1, none⟩ = some (.slice p ws.length cap) ∧ W.cell? ⟨w.heap.size + 1, 0, none⟩ = some (.int .i64 (m : Int)) ∧ W.cell? ⟨w.heap.size + 1, 1, none⟩ = some (.slice p' vs.length cap')) (first | exact hs0 | exact keep8 hbz (by assumption)) (first
        | (go_at_call 54; refine Calls.mono (CLL.out _ ?hb _ _ _ ?hw ?hv) ?_; (case hb => exact hbd.out); (case hw => first | exact HW.out | exact HV.out); (case hv => first | exact HVW.out | exact HVV.out); rintro e wz ⟨vz, rfl, hbz, hoz⟩; have hbd := Lib.hid (below_next hbd.out hbz)))
      all_goals
        go_wp2_with fail
        go_meet
        exact lists_mk (by assumption) (by assumption) hbz hoz
    case rest =>
    obtain ⟨pb, cb, pc, cc, N2, rfl, rfl, hb, ho, hbo, hnw, hlow⟩ := hcut
    have HI := Lib.hid (show LInv w _ (w.heap.size + 1 + 1) w1.heap.size m (.slice pb m cb) (bitN ws) from ⟨HB1.out.trans (hb.mono HB1.out.size), HR1.out.below hb, ho⟩)
    have HC := Lib.hid hbo; have HN := Lib.hid hnw; have HLOW := Lib.hid hlow
    have hlt1 := HR1.out.lt
    clear hb ho hbo hnw hlow hs0 hbd hv hv'
    go_wp2_with fail

    go_loopg [9] m (fun n1 i wr => ∃ k : Nat, k + n1 = m ∧ i = .int .i64 k ∧ LInv w wr (w.heap.size + 1 + 1) w1.heap.size m (.slice pb m cb) (partF (bitN ws) (fun i => bitN ws i || bitN vs i) k) ∧ BoolsAt wr pc (bitN vs) m)
    case atStart => exact ⟨0, by omega, by go_num, by rw [partF_zero]; exact HI.out, HC.out⟩
    case round =>
      clear HI HC
      obtain ⟨k, hkn, rfl, hinv, hbs⟩ := hrel
      have HI := Lib.hid hinv; have HC := Lib.hid hbs
      clear hinv hbs
      have k0 : (0 : Int) ≤ k := by omega
      have k4 : (k : Int) ≤ 4096 := by omega
      by_cases hlt : k < m
      · obtain ⟨n', rfl⟩ : ∃ n', gk = n' + 1 := ⟨gk - 1, by omega⟩
        have i1 : (k : Int) < m := by omega
        obtain ⟨g, cg, hve, hg, d0, f5⟩ := HI.out.at_ hlt
        have hgl := HLOW.out g cg hve (by omega)
        obtain ⟨rfl, rfl⟩ : pb = some ⟨g, 0, none⟩ ∧ cb = cg := by cases hve; exact ⟨rfl, rfl⟩
        obtain ⟨g2, rfl, hg2, hcb⟩ := HC.out (by omega)
        have hge := HN.out g2 0 rfl
        have d1 := hcb k hlt
        have hpk : partF (bitN ws) (fun i => bitN ws i || bitN vs i) k k = bitN ws k := by simp [partF]
        rw [hpk] at d0
        have HS := Lib.hid (partF_set (bitN ws) (fun i => bitN ws i || bitN vs i) m k (bitN ws k || bitN vs k) rfl)
        have HST := Lib.hid (HI.out.store (k := k) (by omega) (by omega) hg HS.out)
        have HBS := Lib.hid (fun b => HC.out.set_other (B := g) (j := k) (u := .bool b) (fun g' off e => by cases e; omega))
        clear hpk hcb HS
        generalize bitN ws k = b1 at d0 HST
        generalize bitN vs k = b2 at d1 HST
        cases b1 <;> cases b2
        all_goals
          go_wp2_with fail
          go_roundg n'
          case measure => omega
          case rel => exact ⟨k + 1, by omega, by go_num, HST.out, HBS.out _⟩
      · obtain rfl : k = m := by omega
        have hrow := HI.out.row
        rw [partF_all] at hrow
        obtain ⟨p5, c5, hve, hbo, _⟩ := own_boolsN hrow
        obtain ⟨rfl, rfl⟩ : pb = p5 ∧ cb = c5 := by cases hve; exact ⟨rfl, rfl⟩
        have co := rOf_any (fun i => bitN ws i || bitN vs i) k pb cb wr hm hbo
        have CO := Lib.hid co
        have hI := HI.out.below.size
        clear co hbo hrow
        go_wp2_with fail
        refine CO.out.mono ?_
        rintro e w5 ⟨p', cap', rfl, hw', hn', hb⟩
        have HWS := Lib.hid hw'; have HNW := Lib.hid hn'
        have HB5 := Lib.hid (HI.out.below.trans (hb.mono HI.out.below.size))
        obtain ⟨k0, k1, f0, f1, lt⟩ := HI.out.res.below hb
        have hBl := HI.out.res.lt
        clear hb hw' hn'
        go_wp2_with fail
        refine bodyPost_ret (v := .tuple #[.agg #[.int .i64 k, .slice p' (lenW k) cap'], .int .i64 0]) (by simp [results, Tryd.results44, go_sem, k0, k1, f0, f1]) rfl ?_
        rw [← pack_len k (fun i => bitN ws i || bitN vs i)]
        exact btNew_mk E.out (HWS.out.set2 (fun g off e => by have := HNW.out g off e; omega) _ _) (fun g off e => by have := HNW.out g off e; omega) (set2B HB5.out (by omega) _ _)

set_option maxHeartbeats 4000000 in
set_option maxRecDepth 100000 in
theorem rless_any (n : Int) (p : Option Addr) (cap : Nat) (ws : List Nat) (n' : Int) (p' : Option Addr) (cap' : Nat) (vs : List Nat) (w : World) (h : WordsAt w p ws) (h' : WordsAt w p' vs) :
    Calls Tryd.prog 46 #[.agg #[.int .i64 n, .slice p ws.length cap], .agg #[.int .i64 n', .slice p' vs.length cap']] w (BtNew (joinR (fun a b => a && !b) n ws n' vs) w) := by
  have ck := fun W (hW : Below w.heap.size w W) => rboth_any n p cap ws n' p' cap' vs W (h.below hW) (h'.below hW)
  unfold ErrPost at ck
  have e := joinR_eq (fun a b => a && !b) n ws n' vs
  have hok := bothR_ok (n := n) (n' := n') h.lt h'.lt
  have HW := Lib.hid h; have HV := Lib.hid h'
  generalize bothR n ws n' vs = c at ck e hok
  generalize joinR (fun a b => a && !b) n ws n' vs = r at e
  have CK := Lib.hid ck
  have A3 := Lib.hid (fun o1 o2 o3 => alloc3 w o1 o2 o3)
  have R0 := Lib.hid (fun o1 o2 => Res2.new2 w o1 o2 (.int .i64 0) (.slice none 0 0) 24)
  have R1 := Lib.hid (fun (o o' : Obj) (x y : Value) => ((Res2.new w x y 24).below ((Below.refl _ _).alloc (Nat.le_refl _) o)).below ((Below.refl _ _).alloc (Nat.le_refl _) o'))
  have R2 := Lib.hid (fun (o o' : Obj) (x y : Value) => (Res2.new1 w o x y 24).below ((Below.refl _ _).alloc (Nat.le_refl _) o'))
  clear ck h h'
  by_cases hc : c ≠ 0
  · rw [if_pos hc] at e
    obtain ⟨t1, t2⟩ := neq0 hc
    have E := Lib.hid e; clear e hc hok
    go_enter Tryd.func46, Tryd.ntmps46
    go_wp2_with fail
    refine (CK.out _ (A3.out _ _ _).1).mono ?_
    rintro e w1 ⟨rfl, hb⟩
    have HB := Lib.hid ((A3.out _ _ _).1.trans (hb.mono (A3.out _ _ _).1.size))
    obtain ⟨k0, k1, f0, f1, lt⟩ := (R0.out _ _).below hb
    clear hb
    go_wp2_with fail
    refine bodyPost_ret (v := .tuple #[.agg #[.int .i64 0, .slice none 0 0], .int .i64 c]) (by simp [results, Tryd.results46, go_sem, k0, k1, f0, f1]) rfl ?_
    exact btNew_err E.out (set2B HB.out (by omega) _ _)
  · obtain rfl : c = 0 := Classical.not_not.1 hc
    rw [if_neg hc] at e
    obtain ⟨m, rfl, rfl, hv, hv'⟩ := hok rfl
    rw [Int.toNat_natCast] at e
    have hm := hv.le
    have cl := fun W (hW : Below w.heap.size w W) q c us (h : WordsAt w q us) (hv : Valid m us) => rlist_any m q c us W (h.below hW) hv
    unfold ListPost at cl
    have CLL := Lib.hid cl; have E := Lib.hid e
    have HVW := Lib.hid hv; have HVV := Lib.hid hv'
    have m4 : (m : Int) ≤ 4096 := by omega
    clear e cl hok hc
    go_enter Tryd.func46, Tryd.ntmps46
    go_wp2_with fail
    refine (CK.out _ (A3.out _ _ _).1).mono ?_
    rintro e w1 ⟨rfl, hb⟩
    have HB1 := Lib.hid ((A3.out _ _ _).1.trans (hb.mono (A3.out _ _ _).1.size))
    have HX1 := Lib.hid ((R1.out _ _ (.int .i64 m) (.slice p ws.length cap)).below hb)
    have HY1 := Lib.hid ((R2.out _ _ (.int .i64 m) (.slice p' vs.length cap')).below hb)
    have HR1 := Lib.hid ((R0.out _ _).below hb)
    clear hb
    have hs0 := pairs_cells HX1.out HY1.out
    have hbd := Lib.hid (show Below w.heap.size w w1.drew from HB1.out.drew)
    have hr0 := HR1.out.lt
    go_upto_region 4 with fail
    go_cut [7, 8] (fun a b wx => ListsPost (bitN ws) (bitN vs) m w1 a b wx)
    case first =>
      go_region_held3 (fun W => W.cell? ⟨w.heap.size, 0, none⟩ = some (.int .i64 (m : Int)) ∧ W.cell? ⟨w.heap.size, 1, none⟩ = some (.slice p ws.length cap) ∧ W.cell? ⟨w.heap.size + 1, 0, none⟩ = some (.int .i64 (m : Int)) ∧ W.cell? ⟨w.heap.size + 1, 1, none⟩ = some (.slice p' vs.length cap')) (first | exact hs0 | exact keep8 hbz (by assumption)) (first
        | (go_at_call 54; refine Calls.mono (CLL.out _ ?hb _ _ _ ?hw ?hv) ?_; (case hb => exact hbd.out); (case hw => first | exact HW.out | exact HV.out); (case hv => first | exact HVW.out | exact HVV.out); rintro e wz ⟨vz, rfl, hbz, hoz⟩; have hbd := Lib.hid (below_next hbd.out hbz)))
      all_goals
        go_wp2_with fail
        go_meet
        exact lists_mk (by assumption) (by assumption) hbz hoz
    case rest =>
    obtain ⟨pb, cb, pc, cc, N2, rfl, rfl, hb, ho, hbo, hnw, hlow⟩ := hcut
    have HI := Lib.hid (show LInv w _ (w.heap.size + 1 + 1) w1.heap.size m (.slice pb m cb) (bitN ws) from ⟨HB1.out.trans (hb.mono HB1.out.size), HR1.out.below hb, ho⟩)
    have HC := Lib.hid hbo; have HN := Lib.hid hnw; have HLOW := Lib.hid hlow
    have hlt1 := HR1.out.lt
    clear hb ho hbo hnw hlow hs0 hbd hv hv'
    go_wp2_with fail

    go_loopg [9] m (fun n1 i wr => ∃ k : Nat, k + n1 = m ∧ i = .int .i64 k ∧ LInv w wr (w.heap.size + 1 + 1) w1.heap.size m (.slice pb m cb) (partF (bitN ws) (fun i => bitN ws i && !bitN vs i) k) ∧ BoolsAt wr pc (bitN vs) m)
    case atStart => exact ⟨0, by omega, by go_num, by rw [partF_zero]; exact HI.out, HC.out⟩
    case round =>
      clear HI HC
      obtain ⟨k, hkn, rfl, hinv, hbs⟩ := hrel
      have HI := Lib.hid hinv; have HC := Lib.hid hbs
      clear hinv hbs
      have k0 : (0 : Int) ≤ k := by omega
      have k4 : (k : Int) ≤ 4096 := by omega
      by_cases hlt : k < m
      · obtain ⟨n', rfl⟩ : ∃ n', gk = n' + 1 := ⟨gk - 1, by omega⟩
        have i1 : (k : Int) < m := by omega
        obtain ⟨g, cg, hve, hg, d0, f5⟩ := HI.out.at_ hlt
        have hgl := HLOW.out g cg hve (by omega)
        obtain ⟨rfl, rfl⟩ : pb = some ⟨g, 0, none⟩ ∧ cb = cg := by cases hve; exact ⟨rfl, rfl⟩
        obtain ⟨g2, rfl, hg2, hcb⟩ := HC.out (by omega)
        have hge := HN.out g2 0 rfl
        have d1 := hcb k hlt
        have hpk : partF (bitN ws) (fun i => bitN ws i && !bitN vs i) k k = bitN ws k := by simp [partF]
        rw [hpk] at d0
        have HS := Lib.hid (partF_set (bitN ws) (fun i => bitN ws i && !bitN vs i) m k (bitN ws k && !bitN vs k) rfl)
        have HST := Lib.hid (HI.out.store (k := k) (by omega) (by omega) hg HS.out)
        have HBS := Lib.hid (fun b => HC.out.set_other (B := g) (j := k) (u := .bool b) (fun g' off e => by cases e; omega))
        clear hpk hcb HS
        generalize bitN ws k = b1 at d0 HST
        generalize bitN vs k = b2 at d1 HST
        cases b1 <;> cases b2
        all_goals
          go_wp2_with fail
          go_roundg n'
          case measure => omega
          case rel => exact ⟨k + 1, by omega, by go_num, HST.out, HBS.out _⟩
      · obtain rfl : k = m := by omega
        have hrow := HI.out.row
        rw [partF_all] at hrow
        obtain ⟨p5, c5, hve, hbo, _⟩ := own_boolsN hrow
        obtain ⟨rfl, rfl⟩ : pb = p5 ∧ cb = c5 := by cases hve; exact ⟨rfl, rfl⟩
        have co := rOf_any (fun i => bitN ws i && !bitN vs i) k pb cb wr hm hbo
        have CO := Lib.hid co
        have hI := HI.out.below.size
        clear co hbo hrow
        go_wp2_with fail
        refine CO.out.mono ?_
        rintro e w5 ⟨p', cap', rfl, hw', hn', hb⟩
        have HWS := Lib.hid hw'; have HNW := Lib.hid hn'
        have HB5 := Lib.hid (HI.out.below.trans (hb.mono HI.out.below.size))
        obtain ⟨k0, k1, f0, f1, lt⟩ := HI.out.res.below hb
        have hBl := HI.out.res.lt
        clear hb hw' hn'
        go_wp2_with fail
        refine bodyPost_ret (v := .tuple #[.agg #[.int .i64 k, .slice p' (lenW k) cap'], .int .i64 0]) (by simp [results, Tryd.results46, go_sem, k0, k1, f0, f1]) rfl ?_
        rw [← pack_len k (fun i => bitN ws i && !bitN vs i)]
        exact btNew_mk E.out (HWS.out.set2 (fun g off e => by have := HNW.out g off e; omega) _ _) (fun g off e => by have := HNW.out g off e; omega) (set2B HB5.out (by omega) _ _)

end Go.Proofs.YtocgdibadcmnfaaDoor
