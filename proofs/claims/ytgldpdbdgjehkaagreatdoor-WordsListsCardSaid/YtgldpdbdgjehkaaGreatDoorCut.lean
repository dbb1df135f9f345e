/- strings.IndexFunc over cutField's closure, and cutField. -/
import Derived.Test.YtgldpdbdgjehkaaGreatDoorScan
import Derived.RegionTactic
import Derived.Deep.QuietTactic
import Derived.BigQuiet
import Derived.ChangeAlike
namespace Go.Proofs.YtgldpdbdgjehkaaGreatDoor
open Go.RowKit

set_option maxHeartbeats 1000000 in
set_option maxRecDepth 100000 in
theorem indexFunc_any (s : ByteArray) (B : Nat) (w : World) (hs : s.size ≤ maxLen) (hB : w.heap[B]? = some (.cells #[.bool false] 4 (0, 0))) :
    Calls Tryz.prog 110 #[.string s, .func (.func 87) #[] #[.pointer (some ⟨B, 0, none⟩)], .bool true] w fun e w' => e = .returned (.int .i64 (scanL s.data.toList false 0)) ∧ Below B w w' := by
  have hBs := lt_of_block hB
  have HB := Lib.hid hB; have HS := Lib.hid hs; clear hB hs
  go_enter Tryz.func110, Tryz.ntmps110
  go_wp2
  go_loopg [] s.size (fun gf wx => ∃ (pos : Nat) (b : Bool), wx.heap[w.heap.size]? = some (.stringIter s pos) ∧ wx.heap[B]? = some (.cells #[.bool b] 4 (0, 0)) ∧ Below B w wx ∧ scanL (s.data.toList.drop pos) b pos = scanL s.data.toList false 0 ∧ s.size ≤ pos + gf ∧ w.heap.size < wx.heap.size)
  case atStart =>
    refine ⟨0, false, World.iter_heap w s 0, ?_, (Below.refl B w).alloc (by omega) _, rfl, by omega, by show w.heap.size < (w.alloc _).heap.size; simp⟩
    show (w.alloc _).heap[B]? = _
    rw [Below.heap_alloc _ _ _ hBs]; exact HB.out
  case round =>
    obtain ⟨pos, b, hit, hcl, hbw, hleft, hfu, hsz⟩ := hrel
    by_cases hps : pos < s.size
    · obtain ⟨g', rfl⟩ : ∃ g', gk = g' + 1 := ⟨gk - 1, by omega⟩
      have hnx : ∀ ty, (Instr.next (.pointer (some ⟨w.heap.size, 0, none⟩)) true ty).run Tryz.prog wr = _ := fun ty => Lib.run_next_any_at wr w.heap.size s pos ty hit hps
      have hwd := Lib.width_pos s pos
      rw [scan_rune s pos b hps] at hleft
      generalize (Utf8.decode s pos).1 = R at hnx hleft
      generalize (Utf8.decode s pos).2 = K at hnx hleft hwd
      have hit2 := Lib.iterAt_heap wr w.heap.size s pos (pos + K) hit
      have hcl2 : (wr.iterAt w.heap.size s (pos + K)).heap[B]? = _ := (Lib.iterAt_other wr w.heap.size B s (pos + K) (by omega)).trans hcl
      have hbw2 := Lib.below_iterAt hbw (k := w.heap.size) (by omega) s (pos + K)
      have hsz2 : w.heap.size < (wr.iterAt w.heap.size s (pos + K)).heap.size := by rw [Lib.iterAt_size]; exact hsz
      generalize wr.iterAt w.heap.size s (pos + K) = W at hnx hit2 hcl2 hbw2 hsz2
      have cF := quoteFn (R : Int) B b W hcl2
      generalize hb' : (if (R : Int) = 34 then !b else b) = b' at cF hleft
      have hcond : ((R : Int) == 32 && !b') = true ↔ (R : Int) = 32 ∧ b = false := by
        by_cases h32 : (R : Int) = 32
        · have : b' = b := by rw [← hb', if_neg (by omega)]
          rw [this]; cases b <;> simp [h32]
        · simp [h32]
      have HW := Lib.hid hwd; have HC := Lib.hid hcond; have HI := Lib.hid hit2; have HBW := Lib.hid hbw2; have HL := Lib.hid hleft; have HZ := Lib.hid hsz2
      clear hwd hcond hit2 hcl2 hbw2 hit hcl hbw hb' hleft hsz hsz2
      by_cases hx : ((R : Int) == 32 && !b') = true
      · rw [hx] at cF
        have CF := Lib.hid cF; have HX := Lib.hid hx; clear cF hx
        go_wp2_with (go_at_call 87; refine (CF.out).mono ?_; rintro e w1 ⟨rfl, hc1, ho1⟩)
        go_ret
        refine ⟨ret_int ?_, HBW.out.trans (ho1.below (Nat.le_refl _))⟩
        rw [← HL.out, if_pos (HC.out.1 HX.out)]
      · have hx' : ((R : Int) == 32 && !b') = false := by simpa using hx
        rw [hx'] at cF
        have CF := Lib.hid cF; have HX := Lib.hid hx; clear cF hx hx'
        go_wp2_with (go_at_call 87; refine (CF.out).mono ?_; rintro e w1 ⟨rfl, hc1, ho1⟩)
        go_roundg g'
        case measure => omega
        case rel =>
          have := HW.out
          refine ⟨pos + K, b', (ho1.block _ (by omega)).trans HI.out, hc1, HBW.out.trans (ho1.below (Nat.le_refl _)), ?_, by omega, by rw [ho1.size]; exact HZ.out⟩
          rw [← HL.out, if_neg (fun h => HX.out (HC.out.2 h))]
    · have hnx : ∀ ty, (Instr.next (.pointer (some ⟨w.heap.size, 0, none⟩)) true ty).run Tryz.prog wr = _ := fun ty => Lib.run_next_end_at wr w.heap.size s pos ty hit hps
      have he : scanL (s.data.toList.drop pos) b pos = -1 := by rw [List.drop_of_length_le (by rw [size_list]; omega)]; rfl
      rw [he] at hleft
      have HL := Lib.hid hleft; have HBW := Lib.hid hbw
      clear hleft hbw hit hcl he hsz
      go_wp2
      go_ret
      exact ⟨ret_int HL.out, HBW.out⟩
theorem IndexFunc_any (s : ByteArray) (B : Nat) (w : World) (hs : s.size ≤ maxLen) (hB : w.heap[B]? = some (.cells #[.bool false] 4 (0, 0))) :
    Calls Tryz.prog 86 #[.string s, .func (.func 87) #[] #[.pointer (some ⟨B, 0, none⟩)]] w fun e w' => e = .returned (.int .i64 (scanL s.data.toList false 0)) ∧ Below B w w' := by
  have c := indexFunc_any s B w hs hB
  have C := Lib.hid c; clear c hB hs
  go_enter Tryz.func86, Tryz.ntmps86
  go_wp2_with (go_at_call 110; refine (C.out).mono ?_; rintro e w1 ⟨rfl, hb⟩)
  go_ret
  exact ⟨rfl, hb⟩
theorem scanL_range : ∀ (l : List UInt8) (b : Bool) (i : Nat), scanL l b i = -1 ∨ ∃ k, scanL l b i = ((i + k : Nat) : Int) ∧ k < l.length := by
  intro l
  induction l with
  | nil => intro b i; exact .inl rfl
  | cons c l ih =>
    intro b i
    rw [scanL]
    split
    · exact .inr ⟨0, rfl, by simp⟩
    · rcases ih (if c = 34 then !b else b) (i + 1) with h | ⟨k, hk, hl⟩
      · exact .inl h
      · exact .inr ⟨k + 1, by rw [hk]; congr 1; omega, by simp; omega⟩
/-- What is before the first space that ends a field, what is behind it, and whether there is such a space. -/
def cutR (l : List UInt8) : List UInt8 × List UInt8 × Bool :=
  if scanL l false 0 < 0 then (l, [], false) else (l.take (scanL l false 0).toNat, l.drop ((scanL l false 0).toNat + 1), true)
set_option maxHeartbeats 400000 in
theorem cutField_any (s : ByteArray) (w : World) (hs : s.size ≤ maxLen) :
    Calls Tryz.prog 65 #[.string s] w fun e w' => e = .returned (.tuple #[.string ⟨(cutR s.data.toList).1.toArray⟩, .string ⟨(cutR s.data.toList).2.1.toArray⟩, .bool (cutR s.data.toList).2.2]) ∧ Below w.heap.size w w' := by
  have c := fun W h => IndexFunc_any s w.heap.size W hs h
  have C := Lib.hid c; clear c
  have hs' : s.size ≤ 9223372036854775807 := by unfold maxLen at hs; omega
  unfold cutR
  rcases scanL_range s.data.toList false 0 with hsc | ⟨k, hsc, hk⟩
  · rw [hsc] at C ⊢
    have ba := ba_list s
    have BA := Lib.hid ba; clear ba hsc
    go_enter Tryz.func65, Tryz.ntmps65
    go_wp2_with (go_at_call 86; refine (C.out _ (by exact heap_alloc_new _ _)).mono ?_; rintro e w1 ⟨rfl, hb⟩)
    go_ret3
    refine ⟨?_, ((Below.refl _ _).alloc (Nat.le_refl _) _).trans hb⟩
    simp only [Int.reduceLT, if_true, BA.out]
    rfl
  · rw [Nat.zero_add] at hsc
    rw [size_list] at hk
    rw [hsc] at C ⊢
    have e1 : (⟨(s.data.toList.take k).toArray⟩ : ByteArray) = s.extract 0 k := ba_eq (by rw [Lib.extract_from_zero])
    have e2 : (⟨(s.data.toList.drop (k + 1)).toArray⟩ : ByteArray) = s.extract (k + 1) s.size := ba_eq (by rw [Lib.extract_data, List.take_of_length_le (by simp)])
    rw [if_neg (by omega)]
    simp only [Int.toNat_natCast, e1, e2]
    clear e1 e2 hsc
    have k0 : (0 : Int) ≤ ↑k := by omega
    have k1 : (↑k : Int) ≤ ↑s.size := by omega
    have k2 : (0 : Int) ≤ ↑k + 1 := by omega
    have k3 : (↑k + 1 : Int) ≤ ↑s.size := by omega
    go_enter Tryz.func65, Tryz.ntmps65
    go_wp2_with (go_at_call 86; refine (C.out _ (by exact heap_alloc_new _ _)).mono ?_; rintro e w1 ⟨rfl, hb⟩)
    go_region
    all_goals
      go_wp2
      go_ret3
      exact ⟨rfl, (((Below.refl _ _).alloc (Nat.le_refl _) _).trans hb).drew⟩
end Go.Proofs.YtgldpdbdgjehkaaGreatDoor
