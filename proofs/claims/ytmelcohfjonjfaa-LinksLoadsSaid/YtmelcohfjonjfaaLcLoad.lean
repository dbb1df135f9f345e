/- links: firstWrong. links: Check, Load. links: Load. -/
import Derived.Test.YtmelcohfjonjfaaLcHolds
import Derived.Test.YtmelcohfjonjfaaLcBuild
import Derived.Test.YtmelcohfjonjfaaLcMath
import Derived.Laws.StructEq
import Derived.Laws.ResultCell
namespace Go.Proofs.Ytmelcohfjonjfaa
open Go.RowKit

theorem slotR_ok {m n : Nat} {a b c : Int} : slotR m n a b c = true ↔ SlotOk m n a b c := by
  unfold slotR SlotOk
  by_cases h : a = -1
  · rw [if_pos (beq_iff_eq.2 h)]
    simp only [Bool.and_eq_true, beq_iff_eq]
    constructor
    · rintro ⟨h1, h2⟩; exact .inl ⟨h, h1, h2⟩
    · rintro (⟨_, h1, h2⟩ | ⟨h1, _⟩)
      · exact ⟨h1, h2⟩
      · omega
  · rw [if_neg (fun e => h (beq_iff_eq.1 e))]
    simp only [Bool.and_eq_true, Bool.or_eq_true, beq_iff_eq, decide_eq_true_eq]
    constructor
    · rintro ⟨⟨h1, h2⟩, h3⟩; exact .inr ⟨h1, h2, h3⟩
    · rintro (⟨h1, _⟩ | ⟨h1, h2, h3⟩)
      · exact absurd h1 h
      · exact ⟨⟨h1, h2⟩, h3⟩
theorem SP.fits_is {s : SP} (h : s.fits = true) : s.kl = s.kv ∧ s.kn = s.kl ∧ s.kp = s.kl ∧ s.ka = s.kf ∧ (1 ≤ s.kl ∧ s.kl ≤ 2000) ∧ (1 ≤ s.kf ∧ s.kf ≤ 64) := by
  unfold SP.fits countsR at h
  simp only [Bool.and_eq_true, decide_eq_true_eq] at h
  omega
theorem BelowS.below {S : Nat → Prop} {c D : Nat} {a b : World} (h : BelowS S D a b) (hd : c ≤ D) (hs : ∀ k, k < c → ¬ S k) : Below c a b :=
  ⟨h.os, h.tape, h.output, h.size, fun k hk => h.block k (Nat.lt_of_lt_of_le hk hd) (hs k hk)⟩
theorem info_bool : (Try.prog.info? 4).map (fun i => (i.zero, i.size, i.bytes)) = some (some (.bool false), 1, 1) := by kernel_rfl
theorem made_bool (W : World) (n : Nat) (hn : n ≤ 2000) : (Instr.makeSlice 84 (.int .i64 (n : Int)) (.int .i64 (n : Int))).run Try.prog W = .ok (.slice (some ⟨W.heap.size, 0, none⟩) n n) (W.alloc (.cells (Array.replicate n (.bool false)) 4)) := by
  obtain ⟨i0, hi, hz0, hz1, hz2⟩ := info_partsB info_bool
  have := run_make (P := Try.prog) W 84 4 i0 (.bool false) Try.underlying84 hi hz0 .i64 .i64 (n : Int) n (by omega) (Int.le_refl _) (by rw [hz2]; omega) (by omega)
  rw [this, toNat_cast, hz1, Nat.mul_one]
  have e : madeCells (Value.bool false).cells n = Array.replicate n (.bool false) := by
    apply Array.ext'
    rw [show (Value.bool false).cells = #[.bool false] from rfl, toList_madeCells_one, Array.toList_replicate]
  rw [e]
theorem rowB_new (W : World) (n : Nat) : RowB (W.alloc (.cells (Array.replicate n (.bool false)) 4)) W.heap.size n (fun _ => false) := by
  refine ⟨_, heap_alloc_new W _, by simp, fun j hj => ?_⟩
  rw [Array.getElem?_replicate, if_pos hj]
theorem box2 {W : World} {B : Nat} {t : TypeId} (a b : Value) {x0 x1 : Value} (h : W.heap[B]? = some (.cells #[x0, x1] t (0, 0))) :
    ((W.setCell ⟨B, 0, none⟩ a).setCell ⟨B, 1, none⟩ b).heap[B]? = some (.cells #[a, b] t (0, 0)) := by
  have := heap_set (i := 1) b (heap_set (i := 0) a h)
  simpa using this
theorem info_wrong : (Try.prog.info? 49).map (·.size) = some 2 := by kernel_rfl
def wrV (a b : Int) : Value := .agg #[.int .i64 a, .int .i64 b]
def FwPost (s : SP) (F : LkF) (W : World) (e : Ending) (W' : World) : Prop := ∃ a b : Int, e = .returned (wrV a b) ∧ WrongIs s.fits s.kl s.kf F a b ∧ Below W.heap.size W W'
/-- What the row of marks says behind k lists. -/
def MetIs (F : LkF) (n k : Nat) (M : Nat → Bool) : Prop := ∀ x, x < n → (M x = true ↔ ∃ j L, j < k ∧ Went F ((j : Nat) : Int) L (-1) ∧ x ∈ L)
theorem MetIs.step {F : LkF} {n k : Nat} {M : Nat → Bool} {L : List Nat} (h : MetIs F n k M) (hL : Went F (k : Int) L (-1)) : MetIs F n (k + 1) (fun x => decide (x ∈ L) || M x) := by
  intro x hx
  simp only [Bool.or_eq_true, decide_eq_true_eq]
  rw [h x hx]
  constructor
  · rintro (e | ⟨j, L', hj, hw, hm⟩)
    · exact ⟨k, L, by omega, hL, e⟩
    · exact ⟨j, L', by omega, hw, hm⟩
  · rintro ⟨j, L', hj, hw, hm⟩
    by_cases e : j = k
    · subst e; left; rw [went_one hL hw]; exact hm
    · exact .inr ⟨j, L', by omega, hw, hm⟩
theorem MetIs.ok {F : LkF} {n m : Nat} {M : Nat → Bool} (h : MetIs F n m M) (hs : SlotsOk m n F n) (hh : ∀ k, k < m → Holds F n k) {x : Nat} (hx : x < n) (hl : F.list x ≠ -1) : MetOk F n x ↔ M x = true := by
  rw [h x hx]
  constructor
  · rintro (e | ⟨L, hw, hm, hb⟩)
    · exact absurd e hl
    · rcases hs x hx with e | e
      · exact absurd e.1 hl
      · refine ⟨(F.list x).toNat, L, by omega, ?_, hm⟩
        rw [show ((F.list x).toNat : Int) = F.list x by omega]
        exact hw
  · rintro ⟨j, L, hj, hw, hm⟩
    have := (hw.all.2 x hm).1
    obtain ⟨L', hw', _, hb⟩ := hh j hj
    right
    rw [this]
    exact ⟨L, hw, hm, by rw [went_one hw hw']; exact hb⟩
set_option maxHeartbeats 8000000 in
set_option maxRecDepth 100000 in
theorem firstWrong_any {W : World} {s : SP} {v : Nat → Int} {F : LkF} (h : SPAt W s v F) : Calls Try.prog 55 #[s.val] W (FwPost s F W) := by
  obtain ⟨A, hA⟩ : ∃ A : Obj, A = .cells s.cells 39 := ⟨_, rfl⟩
  obtain ⟨R, hR⟩ : ∃ R : Obj, R = .cells #[.int .i64 0, .int .i64 0] 49 := ⟨_, rfl⟩
  obtain ⟨W2, hW2⟩ : ∃ W2 : World, W2 = (W.alloc A).alloc R := ⟨_, rfl⟩
  have sz1 : (W.alloc A).heap.size = W.heap.size + 1 := Array.size_push ..
  have sz2 : W2.heap.size = W.heap.size + 2 := by rw [hW2]; exact (Array.size_push ..).trans (by rw [sz1])
  have B2 : Below W.heap.size W W2 := by rw [hW2]; exact ((Below.refl _ W).alloc (Nat.le_refl _) A).alloc (by rw [sz1]; omega) R
  have e0 : W2.heap[W.heap.size]? = some A := by
    rw [hW2]
    exact (((Below.refl (W.heap.size + 1) (W.alloc A)).alloc (by omega) R).block W.heap.size (by omega)).trans (heap_alloc_new W A)
  have e1 : W2.heap[W.heap.size + 1]? = some R := by
    rw [hW2]
    have := heap_alloc_new (W.alloc A) R
    rw [sz1] at this
    exact this
  have hQ : ∀ V, Below W2.heap.size W2 V → SPAt V s v F ∧
      (V.cell? ⟨W.heap.size, 0, none⟩ = some (.slice s.pv s.kv s.cv) ∧ V.cell? ⟨W.heap.size, 1, none⟩ = some (.slice s.pl s.kl s.cl) ∧ V.cell? ⟨W.heap.size, 2, none⟩ = some (.slice s.pn s.kn s.cn) ∧ V.cell? ⟨W.heap.size, 3, none⟩ = some (.slice s.pp s.kp s.cp) ∧ V.cell? ⟨W.heap.size, 4, none⟩ = some (.slice s.pf s.kf s.cf) ∧ V.cell? ⟨W.heap.size, 5, none⟩ = some (.slice s.pa s.ka s.ca)) ∧
      (V.cell? ⟨W.heap.size + 1, 0, none⟩ = some (.int .i64 0) ∧ V.cell? ⟨W.heap.size + 1, 1, none⟩ = some (.int .i64 0) ∧ V.frozen? ⟨W.heap.size + 1, 0, none⟩ = false ∧ V.frozen? ⟨W.heap.size + 1, 1, none⟩ = false) ∧ Below W.heap.size W V := by
    intro V hV
    have c0 := (hV.block W.heap.size (by omega)).trans e0
    have c1 := (hV.block (W.heap.size + 1) (by omega)).trans e1
    rw [hA] at c0
    rw [hR] at c1
    have hB := B2.trans (hV.mono (by omega))
    exact ⟨h.below hB, ⟨row_cell c0 rfl, row_cell c0 rfl, row_cell c0 rfl, row_cell c0 rfl, row_cell c0 rfl, row_cell c0 rfl⟩, ⟨row_cell c1 rfl, row_cell c1 rfl, row_free c1, row_free c1⟩, hB⟩
  have hF : ∀ V a b, Below W2.heap.size W2 V → ((V.setCell ⟨W.heap.size + 1, 0, none⟩ a).setCell ⟨W.heap.size + 1, 1, none⟩ b).heap[W.heap.size + 1]? = some (.cells #[a, b] 49 (0, 0)) ∧
      Below W.heap.size W ((V.setCell ⟨W.heap.size + 1, 0, none⟩ a).setCell ⟨W.heap.size + 1, 1, none⟩ b) := by
    intro V a b hV
    have c1 := (hV.block (W.heap.size + 1) (by omega)).trans e1
    rw [hR] at c1
    exact ⟨box2 a b c1, ((B2.trans (hV.mono (by omega))).setCell (by show W.heap.size ≤ W.heap.size + 1; omega) a).setCell (by show W.heap.size ≤ W.heap.size + 1; omega) b⟩
  have CS := Lib.hid (fun V => sizesFit_any V s)
  have HQ := Lib.hid hQ; have HF := Lib.hid hF
  have HW2 := Lib.hid (Below.refl W2.heap.size W2)
  obtain ⟨_, ⟨b0, b1, b2, b3, b4, b5⟩, ⟨r0, r1, f0, f1⟩, _⟩ := hQ W2 (Below.refl _ _)
  have HWIN : Hid (∀ a b, WrongIs s.fits s.kl s.kf F a b → WrongIs s.fits s.kl s.kf F a b) := Lib.hid (fun a b h => h)
  have HSZ := Lib.hid sz2
  clear hQ hF e0 e1 B2 sz1 sz2 h
  cases ef : s.fits
  · have EF := Lib.hid ef
    rw [ef] at CS
    unfold SP.val SP.cells at *
    clear ef
    subst hA hR
    go_enter Try.func55, Try.ntmps55
    go_wp2_with fail
    rw [← hW2]
    clear hW2
    refine (CS.out _).mono ?_
    rintro e w1 ⟨rfl, hb⟩
    have HB := Lib.hid hb
    obtain ⟨_, ⟨b0, b1, b2, b3, b4, b5⟩, ⟨r0, r1, f0, f1⟩, _⟩ := HQ.out w1 hb
    clear hb
    go_wp2_with fail
    try simp only [Exit.inBlock, Exit.then]
    refine bodyPost_ret (results_cell_row rfl _ _ (W.heap.size + 1) _ _ _ _ rfl (HF.out w1 _ _ HB.out).1 Try.underlying49 rfl info_wrong) rfl ?_
    exact ⟨1, 0, rfl, .sizes EF.out, (HF.out w1 _ _ HB.out).2⟩
  · rw [ef] at CS
    obtain ⟨q1, q2, q3, q4, q5, q6⟩ := SP.fits_is ef
    have CSL : Hid (∀ V, Below W2.heap.size W2 V → ∀ j, j < s.kl → Calls Try.prog 73 #[s.val, .int .i64 (j : Int)] V (BoolPost (slotR s.kf s.kl (F.list j) (F.next j) (F.prev j)) V)) := Lib.hid (fun V hV j hj => slotFits_any (HQ.out V hV).1 hj (by omega) (by omega))
    have CLH : Hid (∀ V, Below W2.heap.size W2 V → SlotsOk s.kf s.kl F s.kl → ∀ gm M i, W2.heap.size ≤ gm → gm < V.heap.size → RowB V gm s.kl M → i < s.kf → Calls Try.prog 74 #[s.val, .int .i64 (i : Int), .slice (some ⟨gm, 0, none⟩) s.kl s.kl] V (HoldsPost F i s.kl gm M V)) :=
      Lib.hid (fun V hV hso gm M i hg hg2 hrow hi => listHolds_any (fun V2 hV2 => (HQ.out V2 (hV.trans (hV2.below hV.size (fun k hk e => by omega)))).1) hrow hg2 q2 q3 q4 hi q5.1 q5.2 (fun x hx hne => by
        rcases hso x hx with e | e
        · exact absurd e.1 hne
        · exact e.2.1))
    obtain ⟨gl, ol, el, _, _⟩ := (HQ.out W2 HW2.out).1.l 0 (by omega)
    have MK := Lib.hid (fun V => made_bool V s.kl q5.2)
    have HN := Lib.hid q5; have HM := Lib.hid q6; have EF := Lib.hid ef
    unfold SP.val SP.cells at *
    have EL := Lib.hid el
    rw [el] at CS CSL CLH HQ b1 hA ⊢
    clear el
    clear q1 q2 q3 q4 q5 q6 ef
    generalize s.pv = pv at *; generalize s.pn = pn at *; generalize s.pp = pp at *; generalize s.pf = pf at *; generalize s.pa = pa at *
    generalize s.cv = cv at *; generalize s.cl = cl at *; generalize s.cn = cn at *; generalize s.cp = cp at *; generalize s.cf = cf at *; generalize s.ca = ca at *
    generalize s.kv = kv at *; generalize s.kn = kn at *; generalize s.kp = kp at *; generalize s.ka = ka at *
    subst hA hR
    go_enter Try.func55, Try.ntmps55
    go_wp2_with fail
    rw [← hW2]
    clear hW2
    refine (CS.out _).mono ?_
    rintro e w1 ⟨rfl, hb⟩
    obtain ⟨_, ⟨b0, b1, b2, b3, b4, b5⟩, ⟨r0, r1, f0, f1⟩, _⟩ := HQ.out w1 hb
    have HB := Lib.hid hb
    clear hb CS
    go_wp2_with fail
    clear b0 b1 b2 b3 b4 b5 r0 r1 f0 f1
    go_loopg [15] s.kl (fun n1 i wr => ∃ k : Nat, i = .int .i64 (k : Int) ∧ k + n1 = s.kl ∧ SlotsOk s.kf s.kl F k ∧ Below W2.heap.size W2 wr)
    case atStart => exact ⟨0, by go_num, by omega, fun j hj => absurd hj (by omega), HB.out⟩
    case round =>
      obtain ⟨k, rfl, hkn, hso, hbv⟩ := hrel
      obtain ⟨_, ⟨b0, b1, b2, b3, b4, b5⟩, ⟨r0, r1, f0, f1⟩, _⟩ := HQ.out wr hbv
      by_cases hlt : k < s.kl
      · obtain ⟨n', rfl⟩ : ∃ n', gk = n' + 1 := ⟨gk - 1, by omega⟩
        have i1 : (k : Int) < s.kl := by omega
        have k0 : (0 : Int) ≤ k := by omega
        have w1 : IntKind.i64.wrap ((k : Int) + 1) = (k : Int) + 1 := IntWalk.i64_in _ (by have := HN.out; omega)
        have CX := Lib.hid (CSL.out wr hbv k hlt)
        have HSO := Lib.hid hso; have HBV := Lib.hid hbv; have HLT := Lib.hid hlt
        clear hso hbv
        cases t : slotR s.kf s.kl (F.list k) (F.next k) (F.prev k)
        · rw [t] at CX
          have HT := Lib.hid (fun e => absurd (slotR_ok.2 e) (by rw [t]; decide) : ¬ SlotOk s.kf s.kl (F.list k) (F.next k) (F.prev k))
          clear t
          go_wp2_with fail
          refine CX.out.mono ?_
          rintro e w3 ⟨rfl, hb⟩
          have HB := Lib.hid (HBV.out.trans (hb.mono HBV.out.size))
          clear hb b0 b1 b2 b3 b4 b5 r0 r1 f0 f1
          obtain ⟨_, ⟨b0, b1, b2, b3, b4, b5⟩, ⟨r0, r1, f0, f1⟩, _⟩ := HQ.out w3 HB.out
          go_wp2_with fail
          try simp only [Exit.inBlock, Exit.then]
          refine bodyPost_ret (results_cell_row rfl _ _ (W.heap.size + 1) _ _ _ _ rfl (HF.out w3 _ _ HB.out).1 Try.underlying49 rfl info_wrong) rfl ?_
          exact ⟨2, k, rfl, .slot k EF.out HLT.out HSO.out HT.out, (HF.out w3 _ _ HB.out).2⟩
        · rw [t] at CX
          have HT := Lib.hid (slotR_ok.1 t)
          clear t
          go_wp2_with fail
          refine CX.out.mono ?_
          rintro e w3 ⟨rfl, hb⟩
          have HB := Lib.hid (HBV.out.trans (hb.mono HBV.out.size))
          clear hb b0 b1 b2 b3 b4 b5 r0 r1 f0 f1
          go_wp2_with fail
          go_roundg n'
          case measure => omega
          case rel => exact ⟨k + 1, by go_num, by omega, (fun j hj => by
            by_cases e : j = k
            · rw [e]; exact HT.out
            · exact HSO.out j (by omega)), HB.out⟩
      · obtain rfl : k = s.kl := by omega
        have HSO := Lib.hid hso; have HBV := Lib.hid hbv
        have mk := MK.out wr
        have hb3 : Below W2.heap.size W2 (wr.alloc (.cells (Array.replicate s.kl (.bool false)) 4)) := hbv.trans ((Below.refl _ wr).alloc hbv.size _)
        have d4 := (HQ.out _ hb3).2.1.2.2.2.2.1
        have HRB := Lib.hid (rowB_new wr s.kl)
        have HB3 := Lib.hid hb3
        have HGM : Hid (W2.heap.size ≤ wr.heap.size) := Lib.hid hbv.size
        have HGM2 : Hid (wr.heap.size < (wr.alloc (.cells (Array.replicate s.kl (.bool false)) 4)).heap.size) := Lib.hid (by rw [show (wr.alloc (.cells (Array.replicate s.kl (.bool false)) 4)).heap.size = wr.heap.size + 1 from Array.size_push ..]; omega)
        clear hso hbv hlt hb3 CSL
        go_wp2_with fail
        clear b0 b1 b2 b3 b4 b5 r0 r1 f0 f1 mk d4 MK
        generalize wr.alloc (.cells (Array.replicate s.kl (.bool false)) 4) = W3 at HRB HB3 HGM2 ⊢
        generalize wr.heap.size = gm at HRB HGM HGM2 ⊢
        go_loopg [32] s.kf (fun n1 i wr => ∃ (k : Nat) (M : Nat → Bool), i = .int .i64 (k : Int) ∧ k + n1 = s.kf ∧ (∀ j, j < k → Holds F s.kl j) ∧ MetIs F s.kl k M ∧ RowB wr gm s.kl M ∧ gm < wr.heap.size ∧ Below W2.heap.size W2 wr)
        case atStart =>
          exact ⟨0, fun _ => false, by go_num, by omega, (fun j hj => absurd hj (by omega)), (fun x _ => ⟨(fun e => by cases e), (by rintro ⟨j, L, hj, _⟩; omega)⟩), HRB.out, HGM2.out, HB3.out⟩
        case round =>
          obtain ⟨k, M, rfl, hkn, hho, hmet, hrow, hgm, hbv⟩ := hrel
          obtain ⟨wx, rfl⟩ : ∃ wx : World, wx = wr := ⟨_, rfl⟩
          obtain ⟨_, ⟨b0, b1, b2, b3, b4, b5⟩, ⟨r0, r1, f0, f1⟩, _⟩ := HQ.out wx hbv
          by_cases hlt : k < s.kf
          · obtain ⟨n', rfl⟩ : ∃ n', gk = n' + 1 := ⟨gk - 1, by omega⟩
            have i1 : (k : Int) < s.kf := by omega
            have k0 : (0 : Int) ≤ k := by omega
            have w1 : IntKind.i64.wrap ((k : Int) + 1) = (k : Int) + 1 := IntWalk.i64_in _ (by have := HM.out; omega)
            have CX := Lib.hid (CLH.out wx hbv HSO.out gm M k HGM.out hgm hrow hlt)
            have HHO := Lib.hid hho; have HMET := Lib.hid hmet; have HBV2 := Lib.hid hbv; have HLT := Lib.hid hlt; have HGT := Lib.hid hgm
            clear hho hmet hbv hrow hgm
            go_wp2_with fail
            refine CX.out.mono ?_
            rintro e w3 ⟨t, L, rfl, hb, hrow, ht1, ht2⟩
            have HB := Lib.hid (HBV2.out.trans (hb.below HBV2.out.size (fun q hq e => by have := HGM.out; omega)))
            have HGT3 := Lib.hid (Nat.lt_of_lt_of_le HGT.out hb.size)
            have HROW := Lib.hid hrow; have HT1 := Lib.hid ht1; have HT2 := Lib.hid ht2
            clear hb hrow ht1 ht2 b0 b1 b2 b3 b4 b5 r0 r1 f0 f1
            cases t
            · obtain ⟨_, ⟨b0, b1, b2, b3, b4, b5⟩, ⟨r0, r1, f0, f1⟩, _⟩ := HQ.out w3 HB.out
              go_wp2_with fail
              try simp only [Exit.inBlock, Exit.then]
              refine bodyPost_ret (results_cell_row rfl _ _ (W.heap.size + 1) _ _ _ _ rfl (HF.out w3 _ _ HB.out).1 Try.underlying49 rfl info_wrong) rfl ?_
              exact ⟨3, k, rfl, .list k EF.out HSO.out HLT.out HHO.out (HT2.out trivial), (HF.out w3 _ _ HB.out).2⟩
            · go_wp2_with fail
              go_roundg n'
              case measure => omega
              case rel => exact ⟨k + 1, _, by go_num, by omega, (fun j hj => by
                by_cases e : j = k
                · rw [e]; exact ⟨L, HT1.out trivial⟩
                · exact HHO.out j (by omega)), HMET.out.step (HT1.out trivial).1, HROW.out, HGT3.out, HB.out⟩
          · obtain rfl : k = s.kf := by omega
            have HHO := Lib.hid hho; have HMET := Lib.hid hmet; have HBV2 := Lib.hid hbv; have HROW := Lib.hid hrow
            clear hho hmet hbv hrow hgm hlt
            go_wp2_with fail
            go_loopg [46] s.kl (fun n1 i wr => ∃ k : Nat, i = .int .i64 (k : Int) ∧ k + n1 = s.kl ∧ (∀ j, j < k → MetOk F s.kl j) ∧ wr = wx)
            case atStart => exact ⟨0, by go_num, by omega, (fun j hj => absurd hj (by omega)), rfl⟩
            case round =>
              obtain ⟨j, rfl, hjn, hmo, rfl⟩ := hrel
              by_cases hlt : j < s.kl
              · obtain ⟨n', rfl⟩ : ∃ n', gk = n' + 1 := ⟨gk - 1, by omega⟩
                have i1 : (j : Int) < s.kl := by omega
                have k0 : (0 : Int) ≤ j := by omega
                have w1 : IntKind.i64.wrap ((j : Int) + 1) = (j : Int) + 1 := IntWalk.i64_in _ (by have := HN.out; omega)
                have y0' := (HQ.out wr HBV2.out).1.l
                rw [EL.out] at y0'
                have y0 := y0'.at hlt
                obtain ⟨m0, _⟩ := HROW.out.get hlt
                obtain ⟨u, hu⟩ : ∃ u : Int, u = F.list j := ⟨_, rfl⟩
                obtain ⟨c, hc⟩ : ∃ c : Bool, c = M j := ⟨_, rfl⟩
                rw [← hu] at y0
                rw [← hc] at m0
                have HU := Lib.hid hu; have HC := Lib.hid hc; have HMO := Lib.hid hmo; have HLT := Lib.hid hlt
                have HSTEP : Hid (∀ h : MetOk F s.kl j, ∀ q, q < j + 1 → MetOk F s.kl q) := Lib.hid (fun h q hq => by
                  by_cases e : q = j
                  · rw [e]; exact h
                  · exact HMO.out q (by omega))
                clear y0' hu hc hmo hlt
                cases t1 : (u != -1)
                · have T1 : Hid (F.list j = -1) := Lib.hid (by rw [← HU.out]; simpa using t1)
                  have HS := Lib.hid (HSTEP.out (.inl T1.out))
                  go_wp2_with fail
                  go_roundg n'
                  case measure => omega
                  case rel => exact ⟨j + 1, by go_num, by omega, HS.out, rfl⟩
                · have T1 : Hid (F.list j ≠ -1) := Lib.hid (by rw [← HU.out]; simpa using t1)
                  have HOK := Lib.hid (HMET.out.ok HSO.out HHO.out HLT.out T1.out)
                  cases c
                  · have HN2 : Hid (¬ MetOk F s.kl j) := Lib.hid (fun h => by have := HOK.out.1 h; rw [← HC.out] at this; cases this)
                    go_wp2_with fail
                    try simp only [Exit.inBlock, Exit.then]
                    refine bodyPost_ret (results_cell_row rfl _ _ (W.heap.size + 1) _ _ _ _ rfl (HF.out wr _ _ HBV2.out).1 Try.underlying49 rfl info_wrong) rfl ?_
                    exact ⟨2, j, rfl, .met j EF.out HSO.out HHO.out HLT.out HMO.out HN2.out, (HF.out wr _ _ HBV2.out).2⟩
                  · have HS := Lib.hid (HSTEP.out (HOK.out.2 HC.out.symm))
                    go_wp2_with fail
                    go_roundg n'
                    case measure => omega
                    case rel => exact ⟨j + 1, by go_num, by omega, HS.out, rfl⟩
              · obtain rfl : j = s.kl := by omega
                have HMO := Lib.hid hmo
                clear hmo hlt
                go_wp2_with fail
                try simp only [Exit.inBlock, Exit.then]
                refine bodyPost_ret (results_cell_row rfl _ _ (W.heap.size + 1) _ _ _ _ rfl (HF.out wr _ _ HBV2.out).1 Try.underlying49 rfl info_wrong) rfl ?_
                exact ⟨0, 0, rfl, .none EF.out HSO.out HHO.out HMO.out, (HF.out wr _ _ HBV2.out).2⟩
end Go.Proofs.Ytmelcohfjonjfaa
namespace Go.Proofs.Ytmelcohfjonjfaa
open Go.RowKit

def codeR (a : Int) : Int := if a = 0 then 0 else 6
def CheckPost (s : SP) (F : LkF) (W : World) (e : Ending) (W' : World) : Prop := ∃ a b : Int, e = .returned (.tuple #[wrV a b, .int .i64 (codeR a)]) ∧ WrongIs s.fits s.kl s.kf F a b ∧ Below W.heap.size W W'
theorem ret_wrong {tmps : Array Value} {w : World} {R : Nat} {a b : Value} (hp : tmps.getD 2 undef = .pointer (some ⟨R, 0, none⟩)) (hg : w.heap[R]? = some (.cells #[a, b] 49 (0, 0))) :
    (results Try.f21 tmps).run Try.prog w = .ok (.tuple #[.agg #[a, b], tmps.getD 3 undef]) w := by
  rw [results_cell_tmp rfl, hp]
  have h := run_loadVar_row (P := Try.prog) w R 49 49 #[a, b] (0, 0) _ hg Try.underlying49 rfl info_wrong
  simp [asAddr, h]
set_option maxHeartbeats 8000000 in
set_option maxRecDepth 100000 in
theorem Check_any {W : World} {s : SP} {v : Nat → Int} {F : LkF} (h : SPAt W s v F) : Calls Try.prog 21 #[s.val] W (CheckPost s F W) := by
  obtain ⟨A, hA⟩ : ∃ A : Obj, A = .cells s.cells 39 := ⟨_, rfl⟩
  obtain ⟨R, hR⟩ : ∃ R : Obj, R = .cells #[.int .i64 0, .int .i64 0] 49 := ⟨_, rfl⟩
  obtain ⟨W2, hW2⟩ : ∃ W2 : World, W2 = (W.alloc A).alloc R := ⟨_, rfl⟩
  have sz1 : (W.alloc A).heap.size = W.heap.size + 1 := Array.size_push ..
  have sz2 : W2.heap.size = W.heap.size + 2 := by rw [hW2]; exact (Array.size_push ..).trans (by rw [sz1])
  have B2 : Below W.heap.size W W2 := by rw [hW2]; exact ((Below.refl _ W).alloc (Nat.le_refl _) A).alloc (by rw [sz1]; omega) R
  have e0 : W2.heap[W.heap.size]? = some A := by
    rw [hW2]
    exact (((Below.refl (W.heap.size + 1) (W.alloc A)).alloc (by omega) R).block W.heap.size (by omega)).trans (heap_alloc_new W A)
  have e1 : W2.heap[W.heap.size + 1]? = some R := by
    rw [hW2]
    have := heap_alloc_new (W.alloc A) R
    rw [sz1] at this
    exact this
  have CF := Lib.hid (firstWrong_any (h.below B2))
  have c0 := e0
  rw [hA] at c0
  have b0 := row_cell (i := 0) c0 rfl; have b1 := row_cell (i := 1) c0 rfl; have b2 := row_cell (i := 2) c0 rfl; have b3 := row_cell (i := 3) c0 rfl; have b4 := row_cell (i := 4) c0 rfl; have b5 := row_cell (i := 5) c0 rfl
  -- the world behind the call and the new variable
  have hN : ∀ w1 a b, Below W2.heap.size W2 w1 → (let V := w1.alloc (.cells #[.int .i64 a, .int .i64 b] 49)
      V.cell? ⟨W.heap.size + 1, 0, none⟩ = some (.int .i64 0) ∧ V.cell? ⟨W.heap.size + 1, 1, none⟩ = some (.int .i64 0) ∧ V.frozen? ⟨W.heap.size + 1, 0, none⟩ = false ∧ V.frozen? ⟨W.heap.size + 1, 1, none⟩ = false ∧
      V.cell? ⟨w1.heap.size, 0, none⟩ = some (.int .i64 a) ∧ V.cell? ⟨w1.heap.size, 1, none⟩ = some (.int .i64 b) ∧
      ((V.setCell ⟨W.heap.size + 1, 0, none⟩ (.int .i64 a)).setCell ⟨W.heap.size + 1, 1, none⟩ (.int .i64 b)).heap[W.heap.size + 1]? = some (.cells #[.int .i64 a, .int .i64 b] 49 (0, 0)) ∧
      Below W.heap.size W ((V.setCell ⟨W.heap.size + 1, 0, none⟩ (.int .i64 a)).setCell ⟨W.heap.size + 1, 1, none⟩ (.int .i64 b))) := by
    intro w1 a b hb V
    have hBV : Below W2.heap.size W2 V := hb.alloc hb.size _
    have c1 := (hBV.block (W.heap.size + 1) (by omega)).trans e1
    rw [hR] at c1
    have n0 : V.heap[w1.heap.size]? = _ := heap_alloc_new w1 _
    exact ⟨row_cell c1 rfl, row_cell c1 rfl, row_free c1, row_free c1, row_cell n0 rfl, row_cell n0 rfl, box2 _ _ c1, ((B2.trans (hBV.mono (by omega))).setCell (by show W.heap.size ≤ W.heap.size + 1; omega) _).setCell (by show W.heap.size ≤ W.heap.size + 1; omega) _⟩
  have HN := Lib.hid hN
  clear hN e0 e1 c0 B2 sz1 sz2 h
  unfold SP.val SP.cells at *
  subst hA hR
  go_enter Try.func21, Try.ntmps21
  go_wp2_with fail
  rw [← hW2]
  clear hW2
  refine CF.out.mono ?_
  rintro e w1 ⟨a, b, rfl, hw, hb⟩
  obtain ⟨r0, r1, f0, f1, n0, n1, q0, q1⟩ := HN.out w1 a b hb
  have HW := Lib.hid hw; have Q0 := Lib.hid q0; have Q1 := Lib.hid q1
  clear hw hb q0 q1 b0 b1 b2 b3 b4 b5 CF HN
  unfold wrV
  by_cases ha : a = 0
  · have hb0 := (HW.out.zero ha).2
    subst ha hb0
    go_wp2_with fail
    try simp only [Exit.inBlock, Exit.then]
    refine bodyPost_ret (ret_wrong rfl Q0.out) rfl ?_
    exact ⟨0, 0, rfl, HW.out, Q1.out⟩
  · have t1 : (a == 0) = false := beq_eq_false_iff_ne.2 ha
    go_wp2_with fail
    try simp only [Exit.inBlock, Exit.then]
    refine bodyPost_ret (ret_wrong rfl Q0.out) rfl ?_
    exact ⟨a, b, by unfold codeR; rw [if_neg ha]; rfl, HW.out, Q1.out⟩
end Go.Proofs.Ytmelcohfjonjfaa
namespace Go.Proofs.Ytmelcohfjonjfaa
open Go.RowKit

def LoadPost (s : SP) (v : Nat → Int) (F : LkF) (W : World) (e : Ending) (W' : World) : Prop :=
  (∃ a b : Int, a ≠ 0 ∧ WrongIs s.fits s.kl s.kf F a b ∧ e = .returned (.tuple #[.pointer none, .int .i64 6]) ∧ Below W.heap.size W W') ∨
  (WrongIs s.fits s.kl s.kf F 0 0 ∧ ∃ B D, e = .returned (.tuple #[.pointer (some ⟨B, 0, none⟩), .int .i64 0]) ∧ NewPool W W' B s.kl s.kf D (freeV v F s.kl) F)
set_option maxHeartbeats 8000000 in
set_option maxRecDepth 100000 in
theorem Load_any {W : World} {s : SP} {v : Nat → Int} {F : LkF} (h : SPAt W s v F) : Calls Try.prog 23 #[s.val] W (LoadPost s v F W) := by
  obtain ⟨A, hA⟩ : ∃ A : Obj, A = .cells s.cells 39 := ⟨_, rfl⟩
  have sz1 : (W.alloc A).heap.size = W.heap.size + 1 := Array.size_push ..
  have B1 : Below W.heap.size W (W.alloc A) := (Below.refl _ W).alloc (Nat.le_refl _) A
  have e0 : (W.alloc A).heap[W.heap.size]? = some A := heap_alloc_new W A
  have CK := Lib.hid (Check_any (h.below B1))
  have c0 := e0
  rw [hA] at c0
  have b0 := row_cell (i := 0) c0 rfl; have b1 := row_cell (i := 1) c0 rfl; have b2 := row_cell (i := 2) c0 rfl; have b3 := row_cell (i := 3) c0 rfl; have b4 := row_cell (i := 4) c0 rfl; have b5 := row_cell (i := 5) c0 rfl
  have hN : ∀ w1 O, Below (W.alloc A).heap.size (W.alloc A) w1 → (let V := w1.alloc O
      (V.cell? ⟨W.heap.size, 0, none⟩ = some (.slice s.pv s.kv s.cv) ∧ V.cell? ⟨W.heap.size, 1, none⟩ = some (.slice s.pl s.kl s.cl) ∧ V.cell? ⟨W.heap.size, 2, none⟩ = some (.slice s.pn s.kn s.cn) ∧ V.cell? ⟨W.heap.size, 3, none⟩ = some (.slice s.pp s.kp s.cp) ∧ V.cell? ⟨W.heap.size, 4, none⟩ = some (.slice s.pf s.kf s.cf) ∧ V.cell? ⟨W.heap.size, 5, none⟩ = some (.slice s.pa s.ka s.ca)) ∧ SPAt V s v F ∧ Below W.heap.size W V) := by
    intro w1 O hb V
    have hBV : Below (W.alloc A).heap.size (W.alloc A) V := hb.alloc hb.size _
    have c1 := (hBV.block W.heap.size (by omega)).trans e0
    rw [hA] at c1
    have hB := B1.trans (hBV.mono (by omega))
    exact ⟨⟨row_cell c1 rfl, row_cell c1 rfl, row_cell c1 rfl, row_cell c1 rfl, row_cell c1 rfl, row_cell c1 rfl⟩, h.below hB, hB⟩
  have HN := Lib.hid hN
  clear hN e0 c0 B1 sz1 h
  unfold SP.val SP.cells at *
  subst hA
  go_enter Try.func23, Try.ntmps23
  go_wp2_with fail
  refine CK.out.mono ?_
  rintro e w1 ⟨a, b, rfl, hw, hb⟩
  obtain ⟨⟨n0, n1, n2, n3, n4, n5⟩, hs, hB⟩ := HN.out w1 (.cells #[.int .i64 a, .int .i64 b] 49) hb
  have HW := Lib.hid hw; have HS := Lib.hid hs; have HB := Lib.hid hB
  clear hw hb hs hB b0 b1 b2 b3 b4 b5 CK HN
  unfold wrV
  by_cases ha : a = 0
  · obtain ⟨hf, hb0⟩ := HW.out.zero ha
    obtain ⟨q1, q2, q3, q4, q5, q6⟩ := SP.fits_is hf
    subst ha hb0
    have CB := Lib.hid (fun V (hV : SPAt V s v F) => build_o (W := V) (n := s.kl) (m := s.kf) (D := ⟨s.pv, s.pl, s.pn, s.pp, s.pf, s.pa, s.cv, s.cl, s.cn, s.cp, s.cf, s.ca⟩) (v := v) (F := F) ⟨by rw [q1]; exact hV.v, hV.l, by rw [← q2]; exact hV.n, by rw [← q3]; exact hV.p, hV.f, by rw [← q4]; exact hV.a⟩ q5 q6)
    unfold stO at CB
    dsimp only at CB
    rw [q2, q3, q4, ← q1]
    rw [q2] at n2; rw [q3] at n3; rw [q4] at n5; rw [← q1] at n0
    clear q1 q2 q3 q4 q5 q6 hf
    rw [show codeR 0 = 0 from rfl]
    go_wp2_with fail
    refine (CB.out _ HS.out).mono ?_
    rintro e w2 ⟨B, D, rfl, P⟩
    have HP := Lib.hid (new_less P HB.out)
    clear P
    go_wp2_with fail
    go_ret2
    exact .inr ⟨HW.out, B, D, rfl, HP.out⟩
  · rw [show codeR a = 6 from if_neg ha]
    have HA := Lib.hid ha
    clear ha
    go_wp2_with fail
    go_ret2
    exact .inl ⟨a, b, HA.out, HW.out, rfl, HB.out⟩
end Go.Proofs.Ytmelcohfjonjfaa
