/- WordsKnown: the walk. -/
import Derived.Test.YtboigkmaccdkpaaGreatDoorWHex
import Derived.Test.YtboigkmaccdkpaaGreatDoorListNil
import Derived.Deep.DeepCutAuto
namespace Go.Proofs.YtboigkmaccdkpaaGreatDoor
open Go.RowKit Go.Shelf

def kl (k : Nat) : List Int := [[4, 4, 4, 4], [1, 2], [10, 10], [0, 0], [], [10000], [-1]].getD k []
def kt (k : Nat) : List UInt8 := [[52, 120, 52], [49, 44, 50], [50, 120, 49, 48], [48, 44, 48], [], [], []].getD k []
def ke (k : Nat) : Int := if k < 5 then 0 else 7
theorem k_list : ∀ k, k < 7 → listR (kl k) = (kt k, ke k) := by
  intro k hk
  rcases k with _ | _ | _ | _ | _ | _ | _ | k
  all_goals first | (exfalso; omega) | kernel_rfl
def kw (k : Nat) : List UInt8 := [[49, 44, 44, 50], [51, 45, 51], [49, 120, 52], [49, 48, 48, 48, 48], [53, 48, 49, 120, 48]].getD k []
def kx (k : Nat) : Int := [6, 6, 6, 7, 3].getD k 0
theorem k_parse : ∀ k, k < 5 → parseR (kw k) = ([], kx k) := by
  intro k hk
  rcases k with _ | _ | _ | _ | _ | k
  all_goals first | (exfalso; omega) | kernel_rfl
theorem kl_len : ∀ k, (kl k).length ≤ 4 := by
  intro k
  rcases k with _ | _ | _ | _ | _ | _ | _ | k
  all_goals first | decide | simp [kl]
theorem kw_len : ∀ k, (kw k).length ≤ 5 := by
  intro k
  rcases k with _ | _ | _ | _ | _ | k
  all_goals first | decide | simp [kw]
theorem IntsAtL.below {w w' : World} {v : Value} {xs : List Int} (h : IntsAtL w v xs) (hb : Below w.heap.size w w') : IntsAtL w' v xs := by
  rcases h with h | ⟨h0, g, off, cap, e, hg, hcap, hc⟩
  · exact .inl h
  · exact .inr ⟨h0, g, off, cap, e, Nat.lt_of_lt_of_le hg hb.size, hcap, fun j hj => (hb.cell (p := ⟨g, off + j, none⟩) hg).trans (hc j hj)⟩
theorem intsAtL_new (W : World) (xs : List Int) (h : 0 < xs.length) : IntsAtL (W.alloc (.cells (intCells xs).toArray 3)) (.slice (some ⟨W.heap.size, 0, none⟩) xs.length xs.length) xs :=
  .inr ⟨h, _, 0, _, rfl, lt_of_block (heap_alloc_new _ _), Nat.le_refl _, fun j hj => cells_new W xs j hj⟩
structure KL (W : World) (B : Nat) : Prop where
  lt : B < W.heap.size
  at_ : ∀ k, k < 7 → ∃ v, W.cell? ⟨B, k, none⟩ = some v ∧ IntsAtL W v (kl k)
theorem KL.below {W W' : World} {B : Nat} (h : KL W B) (hb : Below W.heap.size W W') : KL W' B :=
  ⟨Nat.lt_of_lt_of_le h.lt hb.size, fun k hk => let ⟨v, h1, h2⟩ := h.at_ k hk; ⟨v, (hb.cell (p := ⟨B, k, none⟩) h.lt).trans h1, h2.below hb⟩⟩
/-- A block of these cells. -/
structure KC (W : World) (B n : Nat) (f : Nat → Value) : Prop where
  lt : B < W.heap.size
  at_ : ∀ k, k < n → W.cell? ⟨B, k, none⟩ = some (f k)
theorem KC.below {W W' : World} {B n : Nat} {f : Nat → Value} (h : KC W B n f) (hb : Below W.heap.size W W') : KC W' B n f :=
  ⟨Nat.lt_of_lt_of_le h.lt hb.size, fun k hk => (hb.cell (p := ⟨B, k, none⟩) h.lt).trans (h.at_ k hk)⟩
theorem kc_new (W : World) (cs : Array Value) (t : TypeId) (n : Nat) (f : Nat → Value) (h : ∀ k, k < n → cs[k]? = some (f k)) : KC (W.alloc (.cells cs t)) W.heap.size n f :=
  ⟨lt_of_block (heap_alloc_new _ _), fun k hk => row_cell (heap_alloc_new _ _) (h k hk)⟩
def sl (B n : Nat) : Value := .slice (some ⟨B, 0, none⟩) n n
theorem al_below (W : World) (o : Obj) : Below W.heap.size W (W.alloc o) := (Below.refl _ _).alloc (Nat.le_refl _) _
theorem intsAt_empty {W : World} {v : Value} (h : IntsAt W v []) : ∃ p cap, v = .slice p 0 cap := by
  rcases h with ⟨_, p, cap, e⟩ | ⟨g, off, cap, e, _⟩
  · exact ⟨p, cap, e⟩
  · exact ⟨_, cap, e⟩
theorem bytesAt_new (W : World) (bs : List UInt8) (h : 0 < bs.length) : BytesAt (W.alloc (.cells (byteRow bs).toArray 5)) (.slice (some ⟨W.heap.size, 0, none⟩) bs.length bs.length) bs := by
  refine .inr ⟨h, _, 0, _, rfl, lt_of_block (heap_alloc_new _ _), fun j hj => ?_⟩
  rw [Nat.zero_add]
  refine row_cell (heap_alloc_new _ _) ?_
  unfold byteRow
  rw [List.getElem?_toArray, List.getElem?_map, List.getElem?_eq_getElem hj]; rfl
/-- The blocks of the lists. -/
def kW1 (w : World) : World := w.alloc (.cells #[.int .i64 4, .int .i64 4, .int .i64 4, .int .i64 4] 3)
def kW2 (w : World) : World := (kW1 w).alloc (.cells #[.int .i64 1, .int .i64 2] 3)
def kW3 (w : World) : World := (kW2 w).alloc (.cells #[.int .i64 10, .int .i64 10] 3)
def kW4 (w : World) : World := (kW3 w).alloc (.cells #[.int .i64 0, .int .i64 0] 3)
def kW5 (w : World) : World := (kW4 w).alloc (.cells #[.int .i64 10000] 3)
def kW6 (w : World) : World := (kW5 w).alloc (.cells #[.int .i64 (-1)] 3)
def kArr (w : World) : Array Value := #[sl w.heap.size 4, sl (kW1 w).heap.size 2, sl (kW2 w).heap.size 2, sl (kW3 w).heap.size 2, .slice none 0 0, sl (kW4 w).heap.size 1, sl (kW5 w).heap.size 1]
theorem k_lists (w : World) : KL ((kW6 w).alloc (.cells (kArr w) 61)) (kW6 w).heap.size ∧ Below w.heap.size w ((kW6 w).alloc (.cells (kArr w) 61)) := by
  have b1 : Below w.heap.size w (kW1 w) := al_below _ _
  have b2 : Below (kW1 w).heap.size (kW1 w) (kW2 w) := al_below _ _
  have b3 : Below (kW2 w).heap.size (kW2 w) (kW3 w) := al_below _ _
  have b4 : Below (kW3 w).heap.size (kW3 w) (kW4 w) := al_below _ _
  have b5 : Below (kW4 w).heap.size (kW4 w) (kW5 w) := al_below _ _
  have b6 : Below (kW5 w).heap.size (kW5 w) (kW6 w) := al_below _ _
  have b7 : Below (kW6 w).heap.size (kW6 w) ((kW6 w).alloc (.cells (kArr w) 61)) := al_below _ _
  have i1 : IntsAtL (kW1 w) (sl w.heap.size 4) [4, 4, 4, 4] := intsAtL_new w [4, 4, 4, 4] (Nat.succ_pos _)
  have i2 : IntsAtL (kW2 w) (sl (kW1 w).heap.size 2) [1, 2] := intsAtL_new (kW1 w) [1, 2] (Nat.succ_pos _)
  have i3 : IntsAtL (kW3 w) (sl (kW2 w).heap.size 2) [10, 10] := intsAtL_new (kW2 w) [10, 10] (Nat.succ_pos _)
  have i4 : IntsAtL (kW4 w) (sl (kW3 w).heap.size 2) [0, 0] := intsAtL_new (kW3 w) [0, 0] (Nat.succ_pos _)
  have i5 : IntsAtL (kW5 w) (sl (kW4 w).heap.size 1) [10000] := intsAtL_new (kW4 w) [10000] (Nat.succ_pos _)
  have i6 : IntsAtL (kW6 w) (sl (kW5 w).heap.size 1) [-1] := intsAtL_new (kW5 w) [-1] (Nat.succ_pos _)
  have c := fun k v (h : (kArr w)[k]? = some v) => row_cell (heap_alloc_new (kW6 w) (.cells (kArr w) 61)) h
  refine ⟨⟨lt_of_block (heap_alloc_new _ _), fun k hk => ?_⟩, ?_⟩
  · rcases k with _ | _ | _ | _ | _ | _ | _ | k
    · exact ⟨_, c 0 _ rfl, (((((i1.below b2).below b3).below b4).below b5).below b6).below b7⟩
    · exact ⟨_, c 1 _ rfl, ((((i2.below b3).below b4).below b5).below b6).below b7⟩
    · exact ⟨_, c 2 _ rfl, (((i3.below b4).below b5).below b6).below b7⟩
    · exact ⟨_, c 3 _ rfl, ((i4.below b5).below b6).below b7⟩
    · exact ⟨_, c 4 _ rfl, .inl ⟨rfl, _, _, rfl⟩⟩
    · exact ⟨_, c 5 _ rfl, (i5.below b6).below b7⟩
    · exact ⟨_, c 6 _ rfl, i6.below b7⟩
    · omega
  · have h2 := b1.trans (b2.mono b1.size)
    have h3 := h2.trans (b3.mono h2.size)
    have h4 := h3.trans (b4.mono h3.size)
    have h5 := h4.trans (b5.mono h4.size)
    have h6 := h5.trans (b6.mono h5.size)
    exact h6.trans (b7.mono h6.size)

theorem kz1 (w : World) : (kW1 w).heap.size = w.heap.size + 1 := by unfold kW1; simp
theorem kz2 (w : World) : (kW2 w).heap.size = (kW1 w).heap.size + 1 := by unfold kW2; simp
theorem kz3 (w : World) : (kW3 w).heap.size = (kW2 w).heap.size + 1 := by unfold kW3; simp
theorem kz4 (w : World) : (kW4 w).heap.size = (kW3 w).heap.size + 1 := by unfold kW4; simp
theorem kz5 (w : World) : (kW5 w).heap.size = (kW4 w).heap.size + 1 := by unfold kW5; simp
theorem kz6 (w : World) : (kW6 w).heap.size = (kW5 w).heap.size + 1 := by unfold kW6; simp
set_option maxHeartbeats 4000000 in
set_option maxRecDepth 100000 in
theorem known_walk (w : World) (he : Env w) (hx : HexIs w) : Calls Tryz.prog 13 #[] w fun e w' => e = .returned (.bool true) ∧ Below w.heap.size w w' := by
  have c0 := fun W hE => shown_any W hE
  have C0 := Lib.hid c0
  have HE := Lib.hid he; have HX := Lib.hid hx
  clear c0 he hx
  go_enter Tryz.func13, Tryz.ntmps13
  go_upto_region 1 with fail
  go_cut [1] (fun p wx => ∃ B, p = .pointer (some ⟨B, 0, none⟩) ∧ KL wx B ∧ Below w.heap.size w wx)
  case first =>
    go_wp2_with fail
    go_meet
    have h := k_lists w
    simp only [kArr, sl, kz1, kz2, kz3, kz4, kz5, kz6] at h
    exact ⟨_, rfl, h⟩
  case rest =>
    obtain ⟨B1, rfl, hkl, hb1⟩ := hcut
    have HB1 := Lib.hid hb1; have HKL1 := Lib.hid hkl; clear hkl hb1
    go_upto_region 2 with fail
    go_cut [2] (fun p wx => ∃ B, p = .pointer (some ⟨B, 0, none⟩) ∧ KC wx B 7 (fun k => .string ⟨(kt k).toArray⟩) ∧ KL wx B1 ∧ Below w.heap.size w wx)
    case first =>
      go_wp2_with fail
      go_meet
      refine ⟨_, rfl, kc_new _ _ _ 7 _ (fun k hk => ?_), HKL1.out.below (al_below _ _), HB1.out.alloc HB1.out.size _⟩
      rcases k with _ | _ | _ | _ | _ | _ | _ | k
      all_goals first | (exfalso; omega) | rfl
    case rest =>
      obtain ⟨B2, rfl, hkt, hkl, hb2⟩ := hcut
      have HB2 := Lib.hid hb2; have HKL := Lib.hid hkl; have HKT := Lib.hid hkt; clear hkl hb2 hkt HB1 HKL1
      go_wp2_with fail
      go_loopg [3] 7 (fun n i wr => ∃ k : Nat, k + n = 7 ∧ i = .int .i64 k ∧ KC wr B2 7 (fun k => .string ⟨(kt k).toArray⟩) ∧ KL wr B1 ∧ Below w.heap.size w wr)
      case atStart => exact ⟨0, by omega, by go_num, HKT.out, HKL.out, HB2.out⟩
      case round =>
        obtain ⟨k, hkn, rfl, hkt, hkl, hbr⟩ := hrel
        have HB := Lib.hid hbr; clear HB2 HKL HKT hbr
        by_cases hlt : k < 7
        · obtain ⟨n', rfl⟩ : ∃ n', gk = n' + 1 := ⟨gk - 1, by omega⟩
          obtain ⟨v, c1, hv⟩ := hkl.at_ k hlt
          have hlen := kl_len k
          have cL := list_any v (kl k) wr (HE.out.below HB.out) hv (by unfold maxLen; omega)
          unfold ListPost at cL
          rw [k_list k hlt] at cL
          simp only at cL
          have CL := Lib.hid cL
          have HKL := Lib.hid hkl; have HKT := Lib.hid hkt
          have HS := Lib.hid (show ∀ w2, Below wr.heap.size wr w2 → w2.cell? ⟨B2, k, none⟩ = some (.string ⟨(kt k).toArray⟩) from fun w2 hb => (hkt.below hb).at_ k hlt)
          have ik : (k : Int) < 7 := by omega
          clear cL hv hkl hkt hlen
          generalize hke : ke k = er at CL
          by_cases h5 : k < 5
          · have h5' : (k : Int) < 5 := by omega
            obtain rfl : er = 0 := by rw [← hke]; unfold ke; rw [if_pos h5]
            clear hke
            go_wp2_with (go_at_call 23; refine (CL.out).mono ?_; rintro e w2 ⟨rfl, hb2⟩; have c2 := HS.out w2 hb2; have HB2 := Lib.hid hb2; clear hb2)
            go_roundg n'
            case measure => omega
            case rel => exact ⟨k + 1, by omega, by go_num, HKT.out.below HB2.out, HKL.out.below HB2.out, HB.out.trans (HB2.out.mono HB.out.size)⟩
          · have h5' : ¬ (k : Int) < 5 := by omega
            obtain rfl : er = 7 := by rw [← hke]; unfold ke; rw [if_neg h5]
            clear hke
            go_wp2_with (go_at_call 23; refine (CL.out).mono ?_; rintro e w2 ⟨rfl, hb2⟩; have c2 := HS.out w2 hb2; have HB2 := Lib.hid hb2; clear hb2)
            go_roundg n'
            case measure => omega
            case rel => exact ⟨k + 1, by omega, by go_num, HKT.out.below HB2.out, HKL.out.below HB2.out, HB.out.trans (HB2.out.mono HB.out.size)⟩
        · obtain rfl : k = 7 := by omega
          clear hkt hkl
          go_upto_region 9 with fail
          go_cut [6] (fun p wx => ∃ B, p = .pointer (some ⟨B, 0, none⟩) ∧ KC wx B 5 (fun k => .string ⟨(kw k).toArray⟩) ∧ Below w.heap.size w wx)
          case first =>
            go_wp2_with fail
            go_meet
            refine ⟨_, rfl, kc_new _ _ _ 5 _ (fun k hk => ?_), HB.out.alloc HB.out.size _⟩
            rcases k with _ | _ | _ | _ | _ | k
            all_goals first | (exfalso; omega) | rfl
          case rest =>
            obtain ⟨B6, rfl, hkw, hb6⟩ := hcut
            have HB6 := Lib.hid hb6; have HKW6 := Lib.hid hkw; clear hkw hb6 HB
            go_upto_region 10 with fail
            go_cut [7] (fun p wx => ∃ B, p = .pointer (some ⟨B, 0, none⟩) ∧ KC wx B 5 (fun k => .int .i64 (kx k)) ∧ KC wx B6 5 (fun k => .string ⟨(kw k).toArray⟩) ∧ Below w.heap.size w wx)
            case first =>
              go_wp2_with fail
              go_meet
              refine ⟨_, rfl, kc_new _ _ _ 5 _ (fun k hk => ?_), HKW6.out.below (al_below _ _), HB6.out.alloc HB6.out.size _⟩
              rcases k with _ | _ | _ | _ | _ | k
              all_goals first | (exfalso; omega) | rfl
            case rest =>
              obtain ⟨B7, rfl, hkx, hkw, hb7⟩ := hcut
              have HB7 := Lib.hid hb7; have HKW := Lib.hid hkw; have HKX := Lib.hid hkx; clear hkw hkx hb7 HB6 HKW6
              go_wp2_with fail
              go_loopg [8] 5 (fun n i wr => ∃ k : Nat, k + n = 5 ∧ i = .int .i64 k ∧ KC wr B7 5 (fun k => .int .i64 (kx k)) ∧ KC wr B6 5 (fun k => .string ⟨(kw k).toArray⟩) ∧ Below w.heap.size w wr)
              case atStart => exact ⟨0, by omega, by go_num, HKX.out, HKW.out, HB7.out⟩
              case round =>
                obtain ⟨k, hkn, rfl, hkx, hkw, hbr⟩ := hrel
                have HB := Lib.hid hbr; clear HB7 HKW HKX hbr
                by_cases hlt : k < 5
                · obtain ⟨n', rfl⟩ : ∃ n', gk = n' + 1 := ⟨gk - 1, by omega⟩
                  have c1 := hkw.at_ k hlt
                  have hlen := kw_len k
                  have cP := parse_is ⟨(kw k).toArray⟩ wr (HE.out.below HB.out) (by rw [ba_size]; unfold maxLen; omega) [] (kx k) (by simpa using k_parse k hlt)
                  have CP := Lib.hid cP
                  have HKX := Lib.hid hkx; have HKW := Lib.hid hkw
                  have HS := Lib.hid (show ∀ w2, Below wr.heap.size wr w2 → w2.cell? ⟨B7, k, none⟩ = some (.int .i64 (kx k)) from fun w2 hb => (hkx.below hb).at_ k hlt)
                  have ik : (k : Int) < 5 := by omega
                  clear cP hkx hkw hlen
                  generalize kx k = er at CP HS
                  go_wp2_with (go_at_call 25; refine (CP.out).mono ?_; rintro e w2 ⟨v2, rfl, hi2, hb2⟩; obtain ⟨p2, cap2, rfl⟩ := intsAt_empty hi2; have c2 := HS.out w2 hb2; have HB2 := Lib.hid hb2; clear hb2 hi2)
                  go_roundg n'
                  case measure => omega
                  case rel => exact ⟨k + 1, by omega, by go_num, HKX.out.below HB2.out, HKW.out.below HB2.out, HB.out.trans (HB2.out.mono HB.out.size)⟩
                · obtain rfl : k = 5 := by omega
                  clear hkx hkw
                  have c17 := fun W hE => unquote_any ⟨#[34, 97]⟩ W hE (by decide)
                  have c18 := fun W hE => split_is ⟨#[97, 32, 32, 98]⟩ W hE (mx 4 (by decide)) [] 6 (by kernel_rfl)
                  have c19 := fun W hE => split_is ⟨#[97, 34, 98]⟩ W hE (mx 3 (by decide)) [] 6 (by kernel_rfl)
                  have c20 := fun W hE => int_any ⟨#[53]⟩ 9 0 W hE (by decide)
                  have c21 := fun (v : Value) W hE hX hF => hex_any v [0, 10, 255] W hE hX hF
                  have c22 := fun W hE hX => unhex_any ⟨#[48, 97, 70, 70]⟩ W hE hX (mx 4 (by decide))
                  have c23 := fun W hE hX => unhex_any ⟨#[48, 97, 49]⟩ W hE hX (mx 3 (by decide))
                  rw [show unquoteR (⟨#[34, 97]⟩ : ByteArray).data.toList = ([], 6) by kernel_rfl] at c17
                  rw [show intR (⟨#[53]⟩ : ByteArray).data.toList 9 0 = (0, 2) by kernel_rfl] at c20
                  rw [show hexR [0, 10, 255] = ([48, 48, 48, 97, 102, 102], 0) by kernel_rfl] at c21
                  rw [show unhexR (⟨#[48, 97, 70, 70]⟩ : ByteArray).data.toList = ([], 6) by kernel_rfl] at c22
                  rw [show unhexR (⟨#[48, 97, 49]⟩ : ByteArray).data.toList = ([], 6) by kernel_rfl] at c23
                  have C17 := Lib.hid c17; have C18 := Lib.hid c18; have C19 := Lib.hid c19; have C20 := Lib.hid c20; have C21 := Lib.hid c21; have C22 := Lib.hid c22; have C23 := Lib.hid c23
                  clear c17 c18 c19 c20 c21 c22 c23
                  go_upto_region 18 with (go_at_call 34; refine (C17.out _ (HE.out.below HB.out)).mono ?_; rintro e w1 ⟨rfl, hb⟩; have HB1 := Lib.hid (HB.out.trans (hb.mono HB.out.size)); clear hb)
                  go_upto_region 19 with (go_at_call 36; refine (C18.out _ (HE.out.below HB1.out)).mono ?_; rintro e w2 ⟨a2, rfl, hf2, hb⟩; obtain ⟨p2, cap2, rfl⟩ := hf2.len; have HB2 := Lib.hid (HB1.out.trans (hb.mono HB1.out.size)); clear hb hf2)
                  go_upto_region 20 with (go_at_call 36; refine (C19.out _ (HE.out.below HB2.out)).mono ?_; rintro e w3 ⟨a3, rfl, hf3, hb⟩; have HB3 := Lib.hid (HB2.out.trans (hb.mono HB2.out.size)); clear hb hf3)
                  go_upto_region 21 with (go_at_call 19; refine (C20.out _ (HE.out.below HB3.out)).mono ?_; rintro e w4 ⟨rfl, hb⟩; have HB4 := Lib.hid (HB3.out.trans (hb.mono HB3.out.size)); clear hb)
                  go_upto_region 22 with (go_at_call 28; refine (C21.out _ _ ((HE.out.below HB4.out).alloc _) (HX.out.below HE.out.size (HB4.out.alloc HB4.out.size _)) (bytesAt_new w4 [0, 10, 255] (Nat.succ_pos _))).mono ?_; rintro e w5 ⟨rfl, hb⟩; have HB5 := Lib.hid (HB4.out.trans (((al_below w4 _).trans (hb.mono (by simp))).mono HB4.out.size)); clear hb)
                  go_upto_region 23 with (go_at_call 30; refine (C22.out _ (HE.out.below HB5.out) (HX.out.below HE.out.size HB5.out)).mono ?_; rintro e w6 ⟨a6, rfl, ho6, hb⟩; have HB6 := Lib.hid (HB5.out.trans (hb.mono HB5.out.size)); clear hb ho6)
                  go_wp2_with (first
                    | (go_at_call 30; refine (C23.out _ (HE.out.below HB6.out) (HX.out.below HE.out.size HB6.out)).mono ?_; rintro e w7 ⟨a7, rfl, ho7, hb⟩; have HB7 := Lib.hid (HB6.out.trans (hb.mono HB6.out.size)); clear hb ho7)
                    | (go_at_call 14; refine (C0.out _ (HE.out.below HB7.out)).mono ?_; rintro e w8 ⟨rfl, hb⟩; have HB8 := Lib.hid (HB7.out.trans (hb.mono HB7.out.size)); clear hb))
                  go_ret
                  exact ⟨rfl, HB8.out⟩
end Go.Proofs.YtboigkmaccdkpaaGreatDoor
