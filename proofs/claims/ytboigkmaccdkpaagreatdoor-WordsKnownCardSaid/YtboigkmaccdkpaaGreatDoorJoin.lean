/- words.Join. -/
import Derived.Test.YtboigkmaccdkpaaGreatDoorJMath
import Derived.Test.YtboigkmaccdkpaaGreatDoorAlike
import Derived.Lib.AppendStr
import Derived.Laws.BytesArg
import Derived.Deep.RegionWith
import Derived.Deep.DeepCutAuto
namespace Go.Proofs.YtboigkmaccdkpaaGreatDoor
open Go.RowKit Go.Shelf

def byteRow (l : List UInt8) : List Value := l.map fun b => .int .u8 b.toNat
theorem byteRow_append (a b : List UInt8) : byteRow (a ++ b) = byteRow a ++ byteRow b := by simp [byteRow]
theorem byteRow_str (l : List UInt8) : Lib.strCells ⟨l.toArray⟩ = byteRow l := by simp [Lib.strCells, byteRow]
theorem u8_one (n : Int) : ∀ u ∈ [Value.int .u8 n], u.oneCell' = true := by
  intro u hu; simp only [List.mem_cons, List.not_mem_nil, or_false] at hu; subst hu; rfl
theorem info_u8 : (Tryz.prog.info? 5).map (fun i => (i.zero, i.size, i.bytes)) = some (some (.int .u8 0), 1, 1) := by kernel_rfl
/-- The string of the bytes that the call owns. -/
theorem bytes_str {w : World} {base : Nat} {v : Value} {l : List UInt8} (h : w.ownsRow base 5 1 v l.length (byteRow l)) : (convert 39 9 v).run Tryz.prog w = .ok (.string ⟨l.toArray⟩) w := by
  obtain ⟨h1, ⟨rfl, h2⟩ | ⟨g, cap, cur, rfl, hg, hh, hc, hm, hz, ht⟩⟩ := h
  · obtain rfl := List.length_eq_zero_iff.1 h2
    exact run_convert_bytes_nil w 39 5 Tryz.underlying39 Tryz.underlying5 0 0 _ Tryz.underlying9
  · have := run_convert_bytes_arg (P := Tryz.prog) w 39 5 Tryz.underlying39 Tryz.underlying5 g 0 l.length cap (l.map fun b => (b.toNat : Int)) (by simp) (fun i hi => by
      have e : (byteRow l)[i]? = some (.int .u8 ((l.map fun b => (b.toNat : Int)).getD i 0)) := by
        simp [byteRow, List.getD, List.getElem?_eq_getElem hi]
      rw [← ht, List.getElem?_take, if_pos (by omega), Array.getElem?_toList] at e
      rw [Nat.zero_add]
      exact row_cell hh e) 9 Tryz.underlying9
    have e : strOfNums (l.map fun b => (b.toNat : Int)) = ⟨l.toArray⟩ := by
      refine ba_eq ?_
      rw [strOfNums_data, List.map_map]
      have : (fun n : Int => UInt8.ofNat n.toNat) ∘ (fun b : UInt8 => (b.toNat : Int)) = id := by funext b; simp
      rw [this]; simp
    rw [e] at this
    exact this

def WritePost (f : Fld) (w : World) (e : Ending) (w' : World) : Prop := e = .returned (.tuple #[.string ⟨(writeR f).1.toArray⟩, .bool (writeR f).2]) ∧ Below w.heap.size w w'
set_option maxHeartbeats 400000 in
theorem write_quoted (t : ByteArray) (w : World) (he : Env w) (hs : t.size ≤ 20000) : Calls Tryz.prog 69 #[.agg #[.bool true, .string t]] w (WritePost (true, t.data.toList) w) := by
  have c := fun W hE => quote_any t W hE (by unfold maxLen; omega)
  unfold WritePost
  have hw : writeR (true, t.data.toList) = ((quoteR t.data.toList).1, (quoteR t.data.toList).2 == 0) := rfl
  rw [hw]
  generalize quoteR t.data.toList = r at c ⊢
  obtain ⟨x, er⟩ := r
  simp only at c ⊢
  have HE := Lib.hid (he.alloc (.cells #[.bool true, .string t] 55))
  have HB := Lib.hid ((Below.refl w.heap.size w).alloc (Nat.le_refl _) (.cells #[.bool true, .string t] 55))
  have C := Lib.hid c; clear c he hw
  go_enter Tryz.func69, Tryz.ntmps69
  go_wp2_with (go_at_call 32; refine (C.out _ HE.out).mono ?_; rintro e w1 ⟨rfl, hb1⟩; have HB1 := Lib.hid hb1; clear hb1)
  go_ret2
  exact ⟨rfl, HB.out.trans (HB1.out.mono HB.out.size)⟩
set_option maxHeartbeats 400000 in
theorem write_bare (t : ByteArray) (w : World) (hs : t.size ≤ 20000) : Calls Tryz.prog 69 #[.agg #[.bool false, .string t]] w (WritePost (false, t.data.toList) w) := by
  have c := fun W => bare_any t W (by unfold maxLen; omega)
  unfold WritePost
  have hw : writeR (false, t.data.toList) = (t.data.toList, bareB t.data.toList) := rfl
  rw [hw]
  generalize bareB t.data.toList = b at c ⊢
  simp only [ba_list]
  have HB := Lib.hid ((Below.refl w.heap.size w).alloc (Nat.le_refl _) (.cells #[.bool false, .string t] 55))
  have C := Lib.hid c; clear c hw
  have hz : w.heap.size < (w.alloc (.cells #[.bool false, .string t] 55)).drew.heap.size := by show w.heap.size < (w.alloc _).heap.size; simp
  have k0 : (w.alloc (.cells #[.bool false, .string t] 55)).drew.cell? ⟨w.heap.size, 0, none⟩ = some (.bool false) := two0 w _ _ _
  have k1 : (w.alloc (.cells #[.bool false, .string t] 55)).drew.cell? ⟨w.heap.size, 1, none⟩ = some (.string t) := two1 w _ _ _
  have r0 : (w.alloc (.cells #[.bool false, .string t] 55)).drew.frozen? ⟨w.heap.size, 0, none⟩ = false := twof0 w _ _ _
  have r1 : (w.alloc (.cells #[.bool false, .string t] 55)).drew.frozen? ⟨w.heap.size, 1, none⟩ = false := twof1 w _ _ _
  go_enter Tryz.func69, Tryz.ntmps69
  go_wp2_with fail
  go_region_with (go_at_call 88; refine (C.out _).mono ?_; rintro e w1 ⟨rfl, hb1⟩; obtain ⟨hz2, d0, d1, p0, p1⟩ := two_later hz hb1 k0 k1 r0 r1; have HB1 := Lib.hid hb1; clear hb1)
  all_goals
    go_wp2_with fail
    go_ret2
    exact ⟨rfl, HB.out.drew.trans (HB1.out.mono HB.out.size)⟩
theorem write_any (q : Bool) (t : ByteArray) (w : World) (he : Env w) (hs : t.size ≤ 20000) : Calls Tryz.prog 69 #[.agg #[.bool q, .string t]] w (WritePost (q, t.data.toList) w) := by
  cases q
  · exact write_bare t w hs
  · exact write_quoted t w he hs
theorem writeR_len {f : Fld} (h : (writeR f).2 = true) : (writeR f).1.length ≤ 402 := by
  obtain ⟨q, s⟩ := f
  unfold writeR at h ⊢
  cases q
  · simp only [Bool.false_eq_true, if_false] at h ⊢
    simp only [bareB, Bool.and_eq_true] at h
    have := (textB_parts h.1.2).1; omega
  · simp only [if_true] at h ⊢
    cases ht : textB s
    · rw [quoteR_no ht] at h; cases h
    · rw [quoteR_of ht]
      have h1 := (textB_parts ht).1
      have := dbl_length s
      simp [quoteL]; omega
theorem lineOf_len (fs : List Fld) (h : ∀ f ∈ fs, (writeR f).2 = true) : (lineOf fs).length ≤ 403 * fs.length := by
  have key : ∀ fs : List Fld, (∀ f ∈ fs, (writeR f).2 = true) → (lineW fs).length ≤ 403 * fs.length := by
    intro fs h
    induction fs with
    | nil => simp [lineW]
    | cons f r ih =>
      have := writeR_len (h f (by simp))
      have := ih (fun x hx => h x (by simp [hx]))
      simp only [lineW, List.flatMap_cons, List.length_append, List.length_cons] at this ⊢
      omega
  have := key fs h
  unfold lineOf; rw [List.length_drop]; omega

def JoinPost (fs : List Fld) (w : World) (e : Ending) (w' : World) : Prop := e = .returned (.tuple #[.string ⟨(joinR fs).1.toArray⟩, .int .i64 (joinR fs).2]) ∧ Below w.heap.size w w'
theorem joinPost_mk {fs : List Fld} {w w' : World} {l : List UInt8} {er : Int} (h : joinR fs = (l, er)) (hb : Below w.heap.size w w') : JoinPost fs w (.returned (.tuple #[.string ⟨l.toArray⟩, .int .i64 er])) w' := ⟨by rw [h], hb⟩

set_option maxHeartbeats 2000000 in
set_option maxRecDepth 100000 in
theorem join_some (g off cap : Nat) (fs : List Fld) (w : World) (he : Env w) (h0 : 0 < fs.length) (hg : g < w.heap.size) (hsz : ∀ f ∈ fs, f.2.length ≤ 20000) (h64 : fs.length ≤ 64)
    (hc : ∀ j (h : j < fs.length), w.cell? ⟨g, off + j * 2, none⟩ = some (.bool fs[j].1) ∧ w.cell? ⟨g, off + j * 2 + 1, none⟩ = some (.string ⟨fs[j].2.toArray⟩)) :
    Calls Tryz.prog 40 #[.slice (some ⟨g, off, none⟩) fs.length cap] w (JoinPost fs w) := by
  obtain ⟨i0, hi, hz0, hz1, hz2⟩ := info_parts info_u8
  have HC := Lib.hid hc; have HE := Lib.hid he; have HS := Lib.hid hsz
  have HI := Lib.hid hi; have HZ0 := Lib.hid hz0; have HZ1 := Lib.hid hz1; have HZ2 := Lib.hid hz2
  clear hc he hi hz0 hz1 hz2 hsz
  have h64' : ¬ (64 : Int) < fs.length := by omega
  go_enter Tryz.func40, Tryz.ntmps40
  go_wp2_with fail
  go_loopg [4, 14] fs.length (fun n v i wr => ∃ k : Nat, k + n = fs.length ∧ i = .int .i64 k ∧ wr.ownsRow w.heap.size 5 1 v (lineOf (fs.take k)).length (byteRow (lineOf (fs.take k))) ∧ Below w.heap.size w wr ∧ ∀ f ∈ fs.take k, (writeR f).2 = true)
  case atStart => exact ⟨0, by omega, by go_num, World.ownsRow_nil _ _ _ _, Below.refl _ _, by simp⟩
  case round =>
    obtain ⟨k, hkn, rfl, hown, hbw, hall⟩ := hrel
    have HB := Lib.hid hbw; have HA := Lib.hid hall; have HOWN := Lib.hid hown
    clear hbw hall hown
    by_cases hlt : k < fs.length
    · obtain ⟨n', rfl⟩ : ∃ n', gk = n' + 1 := ⟨gk - 1, by omega⟩
      have c0 := (HB.out.cell (p := ⟨g, off + k * 2, none⟩) hg).trans (HC.out k hlt).1
      have c1 := (HB.out.cell (p := ⟨g, off + k * 2 + 1, none⟩) hg).trans (HC.out k hlt).2
      have hmem : fs[k] ∈ fs := List.getElem_mem hlt
      have hts := take_snoc' fs k hlt
      have hxl := HS.out _ hmem
      obtain ⟨⟨q, X⟩, e0⟩ : ∃ p, fs[k] = p := ⟨_, rfl⟩
      rw [e0] at c0 c1 hts hmem hxl
      simp only at c0 c1 hxl
      have cW := fun W hE => write_any q ⟨X.toArray⟩ W hE (by rw [ba_size]; exact hxl)
      rw [show (⟨X.toArray⟩ : ByteArray).data.toList = X by simp] at cW
      unfold WritePost at cW
      have ik : (k : Int) < fs.length := by omega
      have htl : (fs.take k).length = k := by rw [List.length_take]; omega
      have hll := lineOf_len _ HA.out
      rw [htl] at hll
      have hwl := @writeR_len (q, X)
      have hsn := lineOf_snoc (fs.take k) (q, X)
      rw [← hts] at hsn
      have HE1 := Lib.hid (HE.out.below HB.out)
      generalize hwr : writeR (q, X) = r at cW hwl hsn
      obtain ⟨T, ok⟩ := r
      simp only at cW hwl hsn
      have CW := Lib.hid cW; clear cW
      have HTS := Lib.hid hts; have HM := Lib.hid hmem; have HWR := Lib.hid hwr
      clear hts hmem hwr e0 htl
      have hbx := HB.out.alloc HB.out.size (.cells #[.bool q, .string ⟨X.toArray⟩] 55)
      have HBX := Lib.hid hbx; clear hbx
      cases ok
      · go_wp2_with (go_at_call 69; refine (CW.out _ (HE1.out.alloc _)).mono ?_; rintro e w1 ⟨rfl, hb1⟩; have HB1 := Lib.hid hb1; clear hb1)
        go_ret2
        refine joinPost_mk (l := []) (er := 2) ?_ (HBX.out.trans (HB1.out.mono HBX.out.size))
        rw [joinR, if_neg (by omega), if_pos]
        rw [List.any_eq_true]; exact ⟨_, HM.out, by rw [HWR.out]; rfl⟩
      · have hwl := hwl rfl
        go_upto_if 27 with (go_at_call 69; refine (CW.out _ (HE1.out.alloc _)).mono ?_; rintro e w1 ⟨rfl, hb1⟩; have HB1 := Lib.hid hb1; clear hb1)
        have hb1 := HBX.out.trans (HB1.out.mono HBX.out.size)
        have hown1 := ownsRow_below (ownsRow_below HOWN.out ((Below.refl _ _).alloc (Nat.le_refl _) (.cells #[.bool q, .string ⟨X.toArray⟩] 55))) HB1.out
        have HBZ := Lib.hid hb1; have HOWN1 := Lib.hid hown1; clear hb1 hown1 HB1
        go_cut [4] (fun v wx => ∃ L : List UInt8, lineOf (fs.take (k + 1)) = L ++ T ∧ L.length ≤ (lineOf (fs.take k)).length + 1 ∧ wx.ownsRow w.heap.size 5 1 v L.length (byteRow L) ∧ Below w.heap.size w wx)
        case first =>
          by_cases hk0 : k = 0
          · subst hk0
            have hn : lineOf (fs.take (0 + 1)) = [] ++ T := by rw [hsn, if_pos (by simp)]
            have hl0 : (lineOf (fs.take 0)) = [] := rfl
            have ho := HOWN1.out
            rw [hl0] at ho
            have HO := Lib.hid ho; have HN := Lib.hid hn
            have kz : ¬ (0 : Int) < ((0 : Nat) : Int) := by omega
            clear ho hn hl0 hsn HOWN HOWN1
            go_wp2_with fail
            go_meet
            exact ⟨[], HN.out, by simp, HO.out, HBZ.out⟩
          · have hn : lineOf (fs.take (k + 1)) = (lineOf (fs.take k) ++ [32]) ++ T := by
              rw [hsn, if_neg]; intro e
              have := congrArg List.length e
              rw [List.length_take, List.length_nil] at this; omega
            have HN := Lib.hid hn
            have kz : (0 : Int) < (k : Int) := by omega
            have hb1 : (lineOf (fs.take k)).length + 1 ≤ maxLen := by unfold maxLen; omega
            have hb2 : ((lineOf (fs.take k)).length + 1) * 1 ≤ 140737488355328 := by omega
            have HL1 := Lib.hid hb1; have HL2 := Lib.hid hb2; clear hb1 hb2 hsn hn hll HOWN
            go_wp2_with (at_builtin; refine wpList_append_own _ rfl _ _ 39 rfl w.heap.size 5 i0 (.int .u8 0) 1 1 Tryz.underlying39 HI.out HZ0.out HZ1.out HZ2.out rfl (by decide) _ _ _ rfl (ownsRow_below HOWN1.out ((Below.refl _ _).alloc (Nat.le_refl _) _)) ⟨w1.heap.size, 0, none⟩ 1 1 [.int .u8 32] rfl rfl (cell_one_at _ _ _ _ rfl) (u8_one 32) HL1.out HL2.out (by have := HBZ.out.size; simp; omega) ?_; intro v3 w3 hown3 hgrow3 hnil3)
            go_meet
            refine ⟨lineOf (fs.take k) ++ [32], HN.out, by simp, ?_, ?_⟩
            · rw [byteRow_append, List.length_append]; exact hown3
            · exact (HBZ.out.alloc HBZ.out.size _).grown hgrow3 (by have := HBZ.out.size; simp; omega) (own_block HOWN1.out)
        case rest =>
          obtain ⟨L, hL, hLl, hownL, hbL⟩ := hcut
          have hb1 : L.length + (⟨T.toArray⟩ : ByteArray).size ≤ maxLen := by rw [ba_size]; unfold maxLen; omega
          have hb2 : L.length + (⟨T.toArray⟩ : ByteArray).size ≤ 140737488355328 := by rw [ba_size]; omega
          have HL1 := Lib.hid hb1; have HL2 := Lib.hid hb2; have HL := Lib.hid hL; have HOL := Lib.hid hownL; have HBL := Lib.hid hbL
          clear hb1 hb2 hL hownL hbL hsn hll hLl hwl
          go_wp2_with (at_builtin; refine Lib.wpList_append_own_string _ rfl _ _ 39 9 rfl w.heap.size 5 i0 Tryz.underlying39 Tryz.underlying9 HI.out HZ0.out HZ1.out HZ2.out _ L.length (byteRow L) rfl HOL.out ⟨T.toArray⟩ rfl HL1.out HL2.out HBL.out.size ?_; intro v3 w3 hown3 hgrow3 hnil3)
          go_roundg n'
          case measure => omega
          case rel =>
            refine ⟨k + 1, by omega, by go_num, ?_, HBL.out.grown hgrow3 HBL.out.size (own_block HOL.out), ?_⟩
            · rw [HL.out, byteRow_append, List.length_append, ← byteRow_str T, ← ba_size T]; exact hown3
            · intro f hf
              rw [HTS.out] at hf
              rcases List.mem_append.1 hf with h | h
              · exact HA.out f h
              · obtain rfl := List.mem_singleton.1 h; rw [HWR.out]
    · obtain rfl : k = fs.length := by omega
      have hA := HA.out
      have ho := HOWN.out
      rw [List.take_length] at hA ho
      have hj : joinR fs = if 4096 < (lineOf fs).length then ([], 3) else (lineOf fs, 0) := by
        unfold joinR
        rw [if_neg (by omega), if_neg]
        rw [List.any_eq_true]; rintro ⟨f, hf, hn⟩
        rw [hA f hf] at hn; cases hn
      have hcv := bytes_str ho
      have HJ := Lib.hid hj
      clear hj hA HA HOWN
      rcases ho with ⟨ho1, ⟨rfl, hn⟩ | ⟨g2, cap2, cur, rfl, ho2⟩⟩
      · have HN := Lib.hid hn
        clear ho1
        have h96 : ¬ 4096 < (lineOf fs).length := by omega
        have hz := List.length_eq_zero_iff.1 hn
        have HZ := Lib.hid hz; clear hz hn
        rw [HZ.out] at hcv
        go_wp2_with fail
        go_ret2
        exact joinPost_mk (l := []) (by rw [HJ.out, if_neg h96, HZ.out]) HB.out
      · clear ho1 ho2
        by_cases h96 : 4096 < (lineOf fs).length
        · have h96' : (4096 : Int) < (lineOf fs).length := by omega
          clear hcv
          go_wp2_with fail
          go_ret2
          exact joinPost_mk (l := []) (by rw [HJ.out, if_pos h96]) HB.out
        · have h96' : ¬ (4096 : Int) < (lineOf fs).length := by omega
          go_wp2_with fail
          go_ret2
          exact joinPost_mk (by rw [HJ.out, if_neg h96]) HB.out
theorem join_nil (p : Option Addr) (cap : Nat) (w : World) : Calls Tryz.prog 40 #[.slice p 0 cap] w (JoinPost [] w) := by
  have hcv := run_convert_bytes_nil (P := Tryz.prog) w 39 5 Tryz.underlying39 Tryz.underlying5 0 0 9 Tryz.underlying9
  go_enter Tryz.func40, Tryz.ntmps40
  go_wp2_with fail
  refine wp_loop_rounds 1 ?_
  rw [rounds_succ]
  go_wp2_with fail
  go_ret2
  exact joinPost_mk (l := []) rfl (Below.refl _ _)
theorem join_many (p : Option Addr) (n cap : Nat) (fs : List Fld) (hn : fs.length = n) (h : 64 < n) (w : World) : Calls Tryz.prog 40 #[.slice p n cap] w (JoinPost fs w) := by
  have h64' : (64 : Int) < n := by omega
  go_enter Tryz.func40, Tryz.ntmps40
  go_wp2_with fail
  go_ret2
  exact joinPost_mk (l := []) (by rw [joinR, if_pos (by omega)]) (Below.refl _ _)
theorem join_any (v : Value) (fs : List Fld) (w : World) (he : Env w) (h : FldsAt w v fs) (hsz : ∀ f ∈ fs, f.2.length ≤ 20000) : Calls Tryz.prog 40 #[v] w (JoinPost fs w) := by
  rcases h with ⟨rfl, p, cap, rfl⟩ | ⟨h0, g, off, cap, rfl, hg, hc⟩
  · exact join_nil p cap w
  · by_cases h64 : 64 < fs.length
    · exact join_many _ _ cap fs rfl h64 w
    · exact join_some g off cap fs w he h0 hg hsz (by omega) hc
end Go.Proofs.YtboigkmaccdkpaaGreatDoor
