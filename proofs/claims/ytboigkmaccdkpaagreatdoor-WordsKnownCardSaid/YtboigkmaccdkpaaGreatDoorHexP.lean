/- words.ParseHex. -/
import Derived.Test.YtboigkmaccdkpaaGreatDoorHexC
namespace Go.Proofs.YtboigkmaccdkpaaGreatDoor
open Go.RowKit Go.Shelf

def UnhexPost (r : List UInt8 × Int) (w : World) (e : Ending) (w' : World) : Prop :=
  ∃ v, e = .returned (.tuple #[v, .int .i64 r.2]) ∧ w'.ownsRow w.heap.size 5 1 v r.1.length (byteRow r.1) ∧ Below w.heap.size w w'
theorem unhexPost_mk {s : ByteArray} {w w' : World} {v : Value} {l : List UInt8} {er : Int} (h : unhexR s.data.toList = (l, er)) (ho : w'.ownsRow w.heap.size 5 1 v l.length (byteRow l)) (hb : Below w.heap.size w w') :
    UnhexPost (unhexR s.data.toList) w (.returned (.tuple #[v, .int .i64 er])) w' := by rw [h]; exact ⟨v, rfl, ho, hb⟩
theorem unhexR_of (s : ByteArray) (h : s.size ≤ 200) (h2 : s.size % 2 = 0) : unhexR s.data.toList = match unhex s.data.toList with
      | none => (([] : List UInt8), (6 : Int))
      | some l => (l, 0) := by
  unfold unhexR; rw [size_list, if_neg (by omega), if_neg (by omega)]; cases unhex s.data.toList <;> rfl
/-- One pair of digits. -/
theorem unhex_step (s : ByteArray) (m : Nat) (acc : List UInt8) (h : m + 1 < s.size) : (unhex (s.data.toList.drop m)).map (acc ++ ·) = match pairV s[m] s[m + 1] with
      | none => none
      | some c => (unhex (s.data.toList.drop (m + 2))).map ((acc ++ [c]) ++ ·) := by
  rw [drop_at s m (by omega), drop_at s (m + 1) h, unhex]
  cases pairV s[m] s[m + 1] with
  | none => rfl
  | some c => simp only [Option.map_map]; congr 1; funext x; simp
theorem hexValue_q (c : UInt8) (w : World) (n : Nat) (h : HexIs w) : Calls Tryz.prog 62 #[.int .u8 (c.toNat : Int)] (w.drewN n) fun e w' => e = .returned (.int .i64 (valOf c)) ∧ w' = w.drewN n :=
  (hexValue_any c (w.drewN n) (fun k hk => h k hk)).mono fun e w' h => ⟨h.1, h.2.symm⟩

theorem or16 : ∀ x : Nat, x < 16 → ∀ y : Nat, y < 16 → bits .or .i64 ((x : Int) * 16) (y : Int) % 256 = ((UInt8.ofNat (16 * x + y)).toNat : Int) := by decide +kernel
set_option maxHeartbeats 2000000 in
set_option maxRecDepth 100000 in
theorem unhex_in (s : ByteArray) (w : World) (hx : HexIs w) (h9 : 9 ≤ w.heap.size) (hs : s.size ≤ 200) (hs2 : s.size % 2 = 0) :
    Calls Tryz.prog 30 #[.string s] w (UnhexPost (unhexR s.data.toList) w) := by
  obtain ⟨i0, hi, hz0, hz1, hz2⟩ := info_parts info_u8
  have er := unhexR_of s hs hs2
  have HX := Lib.hid hx; have ER := Lib.hid er
  obtain ⟨N, hN⟩ : ∃ N, s.size / 2 = N := ⟨_, rfl⟩
  have hsN : s.size = 2 * N := by omega
  have hN2 : (s.size : Int).tdiv 2 = (N : Int) := by rw [hsN]; simp
  have hN3 : (s.size : Int) / 2 = (N : Int) := by omega
  have hr0 : ((s.size : Int).tmod 2 != 0) = false := by rw [hsN]; simp
  have hr1 : ((s.size : Int) % 2 != 0) = false := by rw [hsN]; simp
  have hb2 : i0.bytes * N ≤ 281474976710656 := by rw [hz2]; omega
  have hmx : N ≤ maxLen := by unfold maxLen; omega
  have HI := Lib.hid hi; have HZ0 := Lib.hid hz0; have HZ1 := Lib.hid hz1; have HZ2 := Lib.hid hz2; have HB2 := Lib.hid hb2; have HMX := Lib.hid hmx; have HSN := Lib.hid hsN
  clear hi hz0 hz1 hz2 hb2 hmx hx er hN hsN
  have h200 : ¬ (200 : Int) < s.size := by omega
  go_enter Tryz.func30, Tryz.ntmps30
  go_wp2_with (at_make; refine wpList_make_own _ rfl _ _ 39 rfl w.heap.size 5 i0 (.int .u8 0) 1 Tryz.underlying39 HI.out HZ0.out HZ1.out .i64 .i64 _ N rfl rfl rfl HB2.out HMX.out (Nat.le_refl _) ?_; intro w0 hown0 hgrow0)
  have hb0 : Below w.heap.size w w0 := (Below.refl _ _).grown hgrow0 (Nat.le_refl _) (fun k e => by cases e)
  have HO0 := Lib.hid hown0; have HB0 := Lib.hid hb0; clear hown0 hgrow0 hb0 hN2 hN3 hr0 hr1
  go_loopg [4, 5] N (fun n v i wr => ∃ (m : Nat) (acc : List UInt8), m + 2 * n = s.size ∧ i = .int .i64 m ∧ (∃ v', v' = v ∧ wr.ownsRow w.heap.size 5 1 v' acc.length (byteRow acc)) ∧ Below w.heap.size w wr ∧ (unhex (s.data.toList.drop m)).map (acc ++ ·) = unhex s.data.toList ∧ acc.length ≤ m)
  case atStart => exact ⟨0, [], by have := HSN.out; omega, by go_num, ⟨_, rfl, HO0.out⟩, HB0.out, by simp, Nat.le_refl _⟩
  case round =>
    obtain ⟨m, acc, hmn, rfl, ⟨v, rfl, hown⟩, hbw, hfin, hal⟩ := hrel
    have HB := Lib.hid hbw; have HOWN := Lib.hid hown; clear hbw hown
    by_cases hlt : m < s.size
    · obtain ⟨n', rfl⟩ : ∃ n', gk = n' + 1 := ⟨gk - 1, by omega⟩
      have hlt2 : m + 1 < s.size := by omega
      rw [unhex_step s m acc hlt2] at hfin
      have hxr := HX.out.below h9 HB.out
      have c1 := fun c n => hexValue_q c wr n hxr
      have im : (m : Int) < s.size := by omega
      have im2 : (m : Int) + 1 < s.size := by omega
      have C1 := Lib.hid c1; have HFIN := Lib.hid hfin; clear hxr hfin c1
      have hwr : IntKind.i64.wrap ((m : Int) + 1) = (m : Int) + 1 := IntWalk.i64_in _ (by omega)
      have im0 : (0 : Int) ≤ (m : Int) + 1 := by omega
      go_upto_region 9 with fail
      go_quiet (first | (go_at_call 62; refine Calls.quiet_of_same (C1.out _ _)))
      have hv1 : valOf s[m] = match hexV s[m] with
        | some n => (n : Int)
        | none => -1 := rfl
      have hv2 : valOf s[m + 1] = match hexV s[m + 1] with
        | some n => (n : Int)
        | none => -1 := rfl
      have hp : pairV s[m] s[m + 1] = match hexV s[m], hexV s[m + 1] with
        | some x, some y => some (UInt8.ofNat (16 * x + y))
        | _, _ => none := rfl
      have hxa := @hexV_lt s[m]
      have hxb := @hexV_lt s[m + 1]
      have hfin := HFIN.out
      clear HFIN
      rw [hp] at hfin
      generalize valOf s[m] = va at hv1 ⊢
      generalize valOf s[m + 1] = vb at hv2 ⊢
      generalize hexV s[m] = oa at hv1 hp hxa hfin
      generalize hexV s[m + 1] = ob at hv2 hp hxb hfin
      clear hp
      have HFIN := Lib.hid hfin; clear hfin
      cases oa with
      | none =>
        simp only at hv1
        subst hv1
        have hn : unhexR s.data.toList = ([], 6) := by rw [ER.out, ← HFIN.out]
        have HN := Lib.hid hn; clear hn hv2 hxa hxb
        go_wp2_with fail
        go_ret2
        exact unhexPost_mk (l := []) HN.out (World.ownsRow_nil _ _ _ _) (below_drewN HB.out _)
      | some x =>
        have hx16 := (hxa rfl).1
        simp only at hv1
        subst hv1
        have n1 : ¬ (x : Int) < 0 := by omega
        cases ob with
        | none =>
          simp only at hv2
          subst hv2
          have hn : unhexR s.data.toList = ([], 6) := by rw [ER.out, ← HFIN.out]
          have HN := Lib.hid hn; clear hn hxa hxb
          go_wp2_with fail
          go_ret2
          exact unhexPost_mk (l := []) HN.out (World.ownsRow_nil _ _ _ _) (below_drewN HB.out _)
        | some y =>
          have hy16 := (hxb rfl).1
          simp only at hv2
          subst hv2
          have n2 : ¬ (y : Int) < 0 := by omega
          clear hxa hxb
          have hor := or16 x hx16 y hy16
          obtain ⟨c, hcc⟩ : ∃ c, UInt8.ofNat (16 * x + y) = c := ⟨_, rfl⟩
          have hf : (unhex (s.data.toList.drop (m + 2))).map ((acc ++ [c]) ++ ·) = unhex s.data.toList := by rw [← hcc]; exact HFIN.out
          rw [hcc] at hor
          have HF := Lib.hid hf; clear hf HFIN
          have hmx : acc.length + 1 ≤ maxLen := by unfold maxLen; omega
          have hby : (acc.length + 1) * 1 ≤ 140737488355328 := by omega
          have HL1 := Lib.hid hmx; have HL2 := Lib.hid hby; clear hmx hby hcc hwr
          go_wp2_with (at_builtin; refine wpList_append_own _ rfl _ _ 39 rfl w.heap.size 5 i0 (.int .u8 0) 1 1 Tryz.underlying39 HI.out HZ0.out HZ1.out HZ2.out rfl (by decide) _ _ _ rfl (ownsRow_below HOWN.out ((below_drewN (Below.refl _ _) _).alloc (Nat.le_refl _) _)) ⟨wr.heap.size, 0, none⟩ 1 1 [.int .u8 (c.toNat : Int)] rfl rfl (cell_one_at _ _ _ _ rfl) (u8_one _) HL1.out HL2.out (by have := HB.out.size; simp; omega) ?_; intro v3 w3 hown3 hgrow3 hnil3)
          go_roundg n'
          case measure => omega
          case rel =>
            refine ⟨m + 2, acc ++ [c], by omega, by go_num, ⟨_, rfl, ?_⟩, ?_, HF.out, by simp; omega⟩
            · rw [byteRow_append, List.length_append]; exact hown3
            · exact ((below_drewN HB.out _).alloc HB.out.size _).grown hgrow3 (by have := HB.out.size; simp; omega) (own_block HOWN.out)
    · have hend : unhex s.data.toList = some acc := by
        rw [← hfin, List.drop_of_length_le (by rw [size_list]; omega)]; simp [unhex]
      have im : ¬ (m : Int) < s.size := by omega
      have HE := Lib.hid hend; clear hfin hend
      go_wp2_with fail
      go_ret2
      exact unhexPost_mk (by rw [ER.out, HE.out]) HOWN.out HB.out
end Go.Proofs.YtboigkmaccdkpaaGreatDoor
