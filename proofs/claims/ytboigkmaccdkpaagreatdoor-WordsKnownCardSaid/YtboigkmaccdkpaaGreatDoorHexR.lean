/- The reference's ParseHex. -/
import Derived.Test.YtboigkmaccdkpaaGreatDoorHexP
namespace Go.Proofs.YtboigkmaccdkpaaGreatDoor
open Go.RowKit Go.Shelf

theorem pairV_iff (a b : UInt8) (n : Nat) (hn : n < 256) : pairV a b = some (UInt8.ofNat n) ↔ hexD (n / 16) = a ∧ hexD (n % 16) = b := by
  have e : (UInt8.ofNat n).toNat = n := by rw [UInt8.toNat_ofNat']; omega
  constructor
  · intro h
    have := pairV_some h
    rw [e] at this
    exact ⟨this.1.symm, this.2.symm⟩
  · rintro ⟨h1, h2⟩
    have := pairV_hex (UInt8.ofNat n)
    rw [e, h1, h2] at this
    exact this
/-- What the first n bytes have given. -/
def found (o : Option UInt8) (n : Nat) : List UInt8 × Bool := match o with
  | none => ([], false)
  | some c => if c.toNat < n then ([c], true) else ([], false)
theorem found_hit {o : Option UInt8} {n : Nat} (hn : n < 256) (h : o = some (UInt8.ofNat n)) : found o n = ([], false) ∧ found o (n + 1) = ([UInt8.ofNat n], true) := by
  subst h
  have e : (UInt8.ofNat n).toNat = n := by rw [UInt8.toNat_ofNat']; omega
  unfold found
  simp only [e]
  exact ⟨if_neg (by omega), if_pos (by omega)⟩
theorem found_miss {o : Option UInt8} {n : Nat} (h : o ≠ some (UInt8.ofNat n)) : found o (n + 1) = found o n := by
  unfold found
  cases o with
  | none => rfl
  | some c =>
    have : c.toNat ≠ n := by intro e; apply h; rw [← e, UInt8.ofNat_toNat]
    simp only
    by_cases hc : c.toNat < n
    · rw [if_pos hc, if_pos (by omega)]
    · rw [if_neg hc, if_neg (by omega)]
theorem found_end (o : Option UInt8) : found o 256 = match o with
    | none => ([], false)
    | some c => ([c], true) := by
  unfold found
  cases o with
  | none => rfl
  | some c => simp only; rw [if_pos c.toNat_lt]
theorem found_zero (o : Option UInt8) : found o 0 = ([], false) := by
  unfold found
  cases o with
  | none => rfl
  | some c => simp only; rw [if_neg (by omega)]
theorem extract_two (s : ByteArray) (m : Nat) (h : m + 1 < s.size) : s.extract m (m + 2) = ⟨#[s[m], s[m + 1]]⟩ := by
  refine ba_eq ?_
  rw [Lib.extract_data, drop_at s m (by omega), drop_at s (m + 1) h, show m + 2 - m = 2 by omega]; rfl

set_option maxHeartbeats 2000000 in
set_option maxRecDepth 100000 in
theorem runhex_in (s : ByteArray) (w : World) (hs : s.size ≤ 200) (hs2 : s.size % 2 = 0) :
    Calls Tryz.prog 31 #[.string s] w (UnhexPost (unhexR s.data.toList) w) := by
  obtain ⟨i0, hi, hz0, hz1, hz2⟩ := info_parts info_u8
  have er := unhexR_of s hs hs2
  have ER := Lib.hid er
  obtain ⟨N, hN⟩ : ∃ N, s.size / 2 = N := ⟨_, rfl⟩
  have hsN : s.size = 2 * N := by omega
  have hr0 : ((s.size : Int).tmod 2 != 0) = false := by rw [hsN]; simp
  have hr1 : ((s.size : Int) % 2 != 0) = false := by rw [hsN]; simp
  have HI := Lib.hid hi; have HZ0 := Lib.hid hz0; have HZ1 := Lib.hid hz1; have HZ2 := Lib.hid hz2; have HSN := Lib.hid hsN
  clear hi hz0 hz1 hz2 er hN hsN
  have h200 : ¬ (200 : Int) < s.size := by omega
  go_enter Tryz.func31, Tryz.ntmps31
  go_wp2_with fail
  clear hr0 hr1
  go_loopg [4, 5] N (fun n v i wr => ∃ (m : Nat) (acc : List UInt8), m + 2 * n = s.size ∧ i = .int .i64 m ∧ (∃ v', v' = v ∧ wr.ownsRow w.heap.size 5 1 v' acc.length (byteRow acc)) ∧ Below w.heap.size w wr ∧ (unhex (s.data.toList.drop m)).map (acc ++ ·) = unhex s.data.toList ∧ acc.length ≤ m)
  case atStart => exact ⟨0, [], by have := HSN.out; omega, by go_num, ⟨_, rfl, World.ownsRow_nil _ _ _ _⟩, Below.refl _ _, by simp, Nat.le_refl _⟩
  case round =>
    obtain ⟨m, acc, hmn, rfl, ⟨v, rfl, hown⟩, hbw, hfin, hal⟩ := hrel
    have HB := Lib.hid hbw; have HOWN := Lib.hid hown; clear hbw hown
    by_cases hlt : m < s.size
    · obtain ⟨n', rfl⟩ : ∃ n', gk = n' + 1 := ⟨gk - 1, by omega⟩
      have hlt2 : m + 1 < s.size := by omega
      rw [unhex_step s m acc hlt2] at hfin
      have im : (m : Int) < s.size := by omega
      have hext := extract_two s m hlt2
      have hpi := pairV_iff s[m] s[m + 1]
      generalize pairV s[m] s[m + 1] = o at hfin hpi
      obtain ⟨a, ha⟩ : ∃ a, s[m] = a := ⟨_, rfl⟩
      obtain ⟨b, hb⟩ : ∃ b, s[m + 1] = b := ⟨_, rfl⟩
      rw [ha, hb] at hext hpi
      have HFIN := Lib.hid hfin; have HPI := Lib.hid hpi; clear hfin hpi ha hb
      go_wp2_with fail
      go_loopg [4, 6, 7] 256 (fun n v f i wx => ∃ k : Nat, k + n = 256 ∧ i = .int .i64 k ∧ f = .bool (found o k).2 ∧ (∃ v', v' = v ∧ wx.ownsRow w.heap.size 5 1 v' (acc ++ (found o k).1).length (byteRow (acc ++ (found o k).1))) ∧ Below w.heap.size w wx)
      case atStart =>
        refine ⟨0, by omega, by go_num, by rw [found_zero], ⟨_, rfl, ?_⟩, HB.out⟩
        rw [found_zero, List.append_nil]; exact HOWN.out
      case round =>
        obtain ⟨k, hkn, rfl, rfl, ⟨v, rfl, hown⟩, hbw⟩ := hrel
        have HB2 := Lib.hid hbw; have HOWN2 := Lib.hid hown; clear hbw hown HB HOWN
        by_cases h256 : k < 256
        · obtain ⟨n2, rfl⟩ : ∃ n2, gk = n2 + 1 := ⟨gk - 1, by omega⟩
          have ik : (k : Int) < 256 := by omega
          have cN := fun (z : Int) (n : Nat) (hn : n < 16) (hz : z = n) W => nibble_q n hn z hz W
          have CN := Lib.hid cN; clear cN
          have im0 : (0 : Int) ≤ m := by omega
          have im2 : (m : Int) ≤ (m : Int) + 2 := by omega
          have im3 : (m : Int) + 2 ≤ s.size := by omega
          go_upto_region 13 with fail
          go_quiet (first | (go_at_call 61; refine Calls.quiet_of_same (CN.out _ (k / 16) (by omega) (by omega) _)) | (go_at_call 61; refine Calls.quiet_of_same (CN.out _ (k % 16) (by omega) (by omega) _)))
          go_upto_if 39 with fail
          have hX : ((⟨#[hexD (k / 16)]⟩ : ByteArray) ++ ⟨#[hexD (k % 16)]⟩).toList = [hexD (k / 16), hexD (k % 16)] := by rw [Lib.toList_data]; simp
          by_cases ho : o = some (UInt8.ofNat k)
          · have hb : (((⟨#[hexD (k / 16)]⟩ : ByteArray) ++ ⟨#[hexD (k % 16)]⟩).toList == [a, b]) = true := by
              have := (HPI.out k h256).1 ho
              rw [hX, this.1, this.2]; exact beq_self_eq_true _
            obtain ⟨f1, f2⟩ := found_hit h256 ho
            have hmx : (acc ++ (found o k).1).length + 1 ≤ maxLen := by rw [f1, List.append_nil]; unfold maxLen; omega
            have hby : ((acc ++ (found o k).1).length + 1) * 1 ≤ 140737488355328 := by rw [f1, List.append_nil]; omega
            have HL1 := Lib.hid hmx; have HL2 := Lib.hid hby; have HF1 := Lib.hid f1; have HF2 := Lib.hid f2; clear hmx hby f1 f2 ho hX
            simp only [hb]
            go_wp2_with (at_builtin; refine wpList_append_own _ rfl _ _ 39 rfl w.heap.size 5 i0 (.int .u8 0) 1 1 Tryz.underlying39 HI.out HZ0.out HZ1.out HZ2.out rfl (by decide) _ _ _ rfl (ownsRow_below HOWN2.out ((below_drewN (Below.refl _ _) _).alloc (Nat.le_refl _) _)) ⟨wr.heap.size, 0, none⟩ 1 1 [.int .u8 (k : Int)] rfl rfl (cell_one_at _ _ _ _ rfl) (u8_one _) HL1.out HL2.out (by have := HB2.out.size; simp; omega) ?_; intro v3 w3 hown3 hgrow3 hnil3)
            go_roundg n2
            case measure => omega
            case rel =>
              refine ⟨k + 1, by omega, by go_num, by rw [HF2.out], ⟨_, rfl, ?_⟩, ?_⟩
              · have e : (UInt8.ofNat k).toNat = k := by rw [UInt8.toNat_ofNat']; omega
                have h3 := hown3
                rw [HF1.out, List.append_nil] at h3
                rw [HF2.out]
                have e2 : byteRow (acc ++ [UInt8.ofNat k]) = byteRow acc ++ [.int .u8 (k : Int)] := by rw [byteRow_append]; simp [byteRow, e]
                show w3.ownsRow _ _ 1 v3 (acc ++ [UInt8.ofNat k]).length (byteRow (acc ++ [UInt8.ofNat k]))
                rw [e2, List.length_append]; exact h3
              · exact ((below_drewN HB2.out _).alloc HB2.out.size _).grown hgrow3 (by have := HB2.out.size; simp; omega) (own_block HOWN2.out)
          · have hb : (((⟨#[hexD (k / 16)]⟩ : ByteArray) ++ ⟨#[hexD (k % 16)]⟩).toList == [a, b]) = false := by
              rw [hX, beq_eq_false_iff_ne]; intro e
              injection e with e1 e2
              injection e2 with e2 _
              exact ho ((HPI.out k h256).2 ⟨e1, e2⟩)
            have f1 := found_miss ho
            have HF1 := Lib.hid f1; clear f1 ho hX
            simp only [hb]
            go_wp2_with fail
            go_roundg n2
            case measure => omega
            case rel => exact ⟨k + 1, by omega, by go_num, by rw [HF1.out], ⟨_, rfl, by rw [HF1.out]; exact ownsRow_below HOWN2.out (below_drewN (Below.refl _ _) _)⟩, below_drewN HB2.out _⟩
        · obtain rfl : k = 256 := by omega
          have hfe := found_end o
          have hown := HOWN2.out
          have hfin := HFIN.out
          clear HOWN2 HFIN
          cases o with
          | none =>
            simp only at hfe
            rw [hfe] at hown ⊢
            have hn : unhexR s.data.toList = ([], 6) := by rw [ER.out, ← hfin]
            have HN := Lib.hid hn; clear hn hown hfe hfin
            go_wp2_with fail
            go_ret2
            exact unhexPost_mk (l := []) HN.out (World.ownsRow_nil _ _ _ _) HB2.out
          | some c =>
            simp only at hfe hfin
            rw [hfe] at hown ⊢
            have HOWN3 := Lib.hid hown; have HF3 := Lib.hid hfin; clear hown hfe hfin
            go_wp2_with fail
            go_roundg n'
            case measure => omega
            case rel => exact ⟨m + 2, acc ++ [c], by omega, by go_num, ⟨_, rfl, HOWN3.out⟩, HB2.out, HF3.out, by simp; omega⟩
    · have hend : unhex s.data.toList = some acc := by
        rw [← hfin, List.drop_of_length_le (by rw [size_list]; omega)]; simp [unhex]
      have im : ¬ (m : Int) < s.size := by omega
      have HE := Lib.hid hend; clear hfin hend
      go_wp2_with fail
      go_ret2
      exact unhexPost_mk (by rw [ER.out, HE.out]) HOWN.out HB.out
end Go.Proofs.YtboigkmaccdkpaaGreatDoor
