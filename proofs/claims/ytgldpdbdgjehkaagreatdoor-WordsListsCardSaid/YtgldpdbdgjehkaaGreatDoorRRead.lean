/- The reference's read: an item. -/
import Derived.Test.YtgldpdbdgjehkaaGreatDoorRReadMath
import Derived.Deep.QuietTactic
import Derived.BigQuiet
namespace Go.Proofs.YtgldpdbdgjehkaaGreatDoor
open Go.RowKit

def itemW (x : List UInt8 × List UInt8 × List UInt8) : Value := .agg #[.string ⟨x.1.toArray⟩, .string ⟨x.2.1.toArray⟩, .string ⟨x.2.2.toArray⟩]
def ReadPost (l : List UInt8) (w : World) (e : Ending) (w' : World) : Prop := e = .returned (.tuple #[itemW (readI l).1, .bool (readI l).2]) ∧ Below w.heap.size w w'
theorem drewN_b (b n : Nat) (W : World) : Below b W (W.drewN n) := ⟨rfl, rfl, rfl, Nat.le_refl _, fun _ _ => rfl⟩
theorem readPost_mk {l : List UInt8} {w w' : World} {a b c : ByteArray} {f : Bool} {x y z : List UInt8} {g : Bool} (h : readI l = ((x, y, z), g)) (h1 : (⟨x.toArray⟩ : ByteArray) = a) (h2 : (⟨y.toArray⟩ : ByteArray) = b) (h3 : (⟨z.toArray⟩ : ByteArray) = c) (hf : g = f) (hb : Below w.heap.size w w') :
    ReadPost l w (.returned (.tuple #[.agg #[.string a, .string b, .string c], .bool f])) w' := ⟨by rw [h, ← h1, ← h2, ← h3, hf]; rfl, hb⟩
theorem cutI_step (c : UInt8) (r : List UInt8) (h1 : c ≠ 45) (h2 : c ≠ 120) : cutI (c :: r) = (cutI r).map fun x => (c :: x.1, x.2.1, x.2.2) := by
  rw [cutI, if_neg (fun h => h.elim h1 h2)]

set_option maxHeartbeats 4000000 in
theorem rread_any (s : ByteArray) (w : World) (he : Env w) (hs : s.size ≤ 20000) : Calls Tryz.prog 59 #[.string s] w (ReadPost s.data.toList w) := by
  have HS := Lib.hid (St3.new he (.string ⟨#[]⟩) (.string ⟨#[]⟩) (.string ⟨#[]⟩) 84)
  have HE := Lib.hid he; clear he
  go_enter Tryz.func59, Tryz.ntmps59
  go_wp2_with fail
  go_loopw [4, 5, 6] (fun i _ _ wr => ∃ k : Nat, k ≤ s.size ∧ i = .int .i64 k ∧ cutI s.data.toList = (cutI (s.data.toList.drop k)).map (fun x => (s.data.toList.take k ++ x.1, x.2.1, x.2.2)) ∧ St3 w wr (.string ⟨#[]⟩) (.string ⟨#[]⟩) (.string ⟨#[]⟩)) (fun i _ _ _ => s.size - (intOf i).toNat)
  case atStart => exact ⟨0, Nat.zero_le _, rfl, by simp only [List.drop_zero, List.take_zero, List.nil_append]; cases cutI s.data.toList <;> rfl, HS.out⟩
  case round =>
    clear HS
    obtain ⟨k, hk, rfl, hcut, hst⟩ := hrel
    by_cases hlt : k < s.size
    · have hlk : k < s.data.toList.length := by rw [size_list]; exact hlt
      have hdr : s.data.toList.drop k = s[k] :: s.data.toList.drop (k + 1) := List.drop_eq_getElem_cons hlk
      have e1 : (s.extract 0 k).data.toList = s.data.toList.take k := by rw [Lib.extract_from_zero]
      have e2 : (s.extract (k + 1) s.size).data.toList = s.data.toList.drop (k + 1) := by rw [Lib.extract_data, List.take_of_length_le (by simp)]
      have z1 : (s.extract 0 k).size ≤ maxLen := by rw [ByteArray.size_extract]; unfold maxLen; omega
      have z2 : (s.extract (k + 1) s.size).size ≤ maxLen := by rw [ByteArray.size_extract]; unfold maxLen; omega
      have n1 := fun W => rnumber_any (s.extract 0 k) W z1
      have n2 := fun W => rnumber_any (s.extract (k + 1) s.size) W z2
      have b1 := fun W => rless_any (s.extract 0 k) (s.extract (k + 1) s.size) W
      have b2 := fun W => rless_any ⟨#[49]⟩ (s.extract 0 k) W
      have a1 : (⟨(s.data.toList.take k).toArray⟩ : ByteArray) = s.extract 0 k := ba_eq (by rw [e1])
      have a2 : (⟨(s.data.toList.drop (k + 1)).toArray⟩ : ByteArray) = s.extract (k + 1) s.size := ba_eq (by rw [e2])
      rw [e1, e2] at b1
      rw [e1] at b2 n1
      rw [e2] at n2
      rw [hdr] at hcut
      have hcs : s.data.toList.take (k + 1) = s.data.toList.take k ++ [s[k]] := take_snoc s k hlt
      obtain ⟨c, hc⟩ : ∃ c : UInt8, s[k] = c := ⟨_, rfl⟩
      rw [hc] at hcut hcs
      change ∀ W, Calls _ _ _ W fun e w' => e = .returned (.bool (beforeB [49] (s.data.toList.take k))) ∧ W = w' at b2
      have k0 : (0 : Int) ≤ ↑k := by omega
      have k1 : (↑k : Int) ≤ ↑s.size := by omega
      have k2 : (0 : Int) ≤ ↑k + 1 := by omega
      have k3 : (↑k + 1 : Int) ≤ ↑s.size := by omega
      by_cases h45 : c = 45
      · have h4 : ((s[k].toNat : Int) == 45) = true := by rw [hc, h45]; rfl
        have hR : readI s.data.toList = ((s.data.toList.take k, s.data.toList.drop (k + 1), [49]), natB (s.data.toList.take k) && natB (s.data.toList.drop (k + 1)) && beforeB (s.data.toList.take k) (s.data.toList.drop (k + 1))) := by
          rw [readI, hcut, h45, cutI, if_pos (.inl rfl)]; simp
        generalize natB (s.data.toList.take k) = x at n1 hR
        generalize natB (s.data.toList.drop (k + 1)) = y at n2 hR
        generalize beforeB (s.data.toList.take k) (s.data.toList.drop (k + 1)) = z at b1 hR
        have N1 := Lib.hid n1; have N2 := Lib.hid n2; have B1 := Lib.hid b1; have HR := Lib.hid hR; have A1 := Lib.hid a1; have A2 := Lib.hid a2; have HST := Lib.hid hst
        clear n1 n2 b1 b2 hR hcut hcs hdr e1 e2 z1 z2 a1 a2 hst hc h45
        cases x <;> cases y <;> cases z
        all_goals
          go_wp2_with fail
          go_quiet (fail)
          have hs2 := HST.out.later (drewN_b wr.heap.size nq wr)
          generalize wr.drewN nq = w2 at hs2 ⊢
          generalize s.extract 0 k = A at N1 B1 A1 ⊢
          generalize s.extract (k + 1) s.size = B at N2 B1 A2 ⊢
          have HS2 := Lib.hid hs2
          obtain ⟨_, _, hz, c0, c1, c2, q0, q1, q2⟩ := hs2
          go_wp2_with (first
            | (go_at_call_of 83 (Value.string A); refine (N1.out _).mono ?_; rintro e w' ⟨rfl, rfl⟩)
            | (go_at_call_of 83 (Value.string B); refine (N2.out _).mono ?_; rintro e w' ⟨rfl, rfl⟩)
            | (go_at_call 60; refine (B1.out _).mono ?_; rintro e w' ⟨rfl, rfl⟩))
          change bodyPost Tryz.prog Tryz.f59 (ReadPost s.data.toList w) _ _ _
          refine bodyPost_ret (v := .tuple #[.agg #[.string A, .string B, .string ⟨#[49]⟩], .bool _]) (by simp [results, Tryz.results59, go_sem, c0, c1, c2, q0, q1, q2, hz]) rfl (readPost_mk HR.out A1.out A2.out rfl rfl (HS2.out.stored _ _ _))
      · have h4 : ((s[k].toNat : Int) == 45) = false := by
          rw [hc, beq_eq_false_iff_ne]; intro e; exact h45 (UInt8.toNat_inj.1 (by show c.toNat = 45; omega))
        by_cases h120 : c = 120
        · have h5 : ((s[k].toNat : Int) == 120) = true := by rw [hc, h120]; rfl
          have hR : readI s.data.toList = ((s.data.toList.drop (k + 1), s.data.toList.drop (k + 1), s.data.toList.take k), natB (s.data.toList.take k) && natB (s.data.toList.drop (k + 1)) && beforeB [49] (s.data.toList.take k)) := by
            rw [readI, hcut, h120, cutI, if_pos (.inr rfl)]; simp
          generalize natB (s.data.toList.take k) = x at n1 hR
          generalize natB (s.data.toList.drop (k + 1)) = y at n2 hR
          generalize beforeB [49] (s.data.toList.take k) = z at b2 hR
          have N1 := Lib.hid n1; have N2 := Lib.hid n2; have B1 := Lib.hid b2; have HR := Lib.hid hR; have A1 := Lib.hid a1; have A2 := Lib.hid a2; have HST := Lib.hid hst
          clear n1 n2 b1 b2 hR hcut hcs hdr e1 e2 z1 z2 a1 a2 hst hc h45 h120
          cases x <;> cases y <;> cases z
          all_goals
            go_wp2_with fail
            go_quiet (fail)
            have hs2 := HST.out.later (drewN_b wr.heap.size nq wr)
            generalize wr.drewN nq = w2 at hs2 ⊢
            generalize s.extract 0 k = A at N1 B1 A1 ⊢
            generalize s.extract (k + 1) s.size = B at N2 A2 ⊢
            have HS2 := Lib.hid hs2
            obtain ⟨_, _, hz, c0, c1, c2, q0, q1, q2⟩ := hs2
            go_wp2_with (first
              | (go_at_call_of 83 (Value.string A); refine (N1.out _).mono ?_; rintro e w' ⟨rfl, rfl⟩)
              | (go_at_call_of 83 (Value.string B); refine (N2.out _).mono ?_; rintro e w' ⟨rfl, rfl⟩)
              | (go_at_call 60; refine (B1.out _).mono ?_; rintro e w' ⟨rfl, rfl⟩))
            change bodyPost Tryz.prog Tryz.f59 (ReadPost s.data.toList w) _ _ _
            refine bodyPost_ret (v := .tuple #[.agg #[.string B, .string B, .string A], .bool _]) (by simp [results, Tryz.results59, go_sem, c0, c1, c2, q0, q1, q2, hz]) rfl (readPost_mk HR.out A2.out A2.out A1.out rfl (HS2.out.stored _ _ _))
        · have h5 : ((s[k].toNat : Int) == 120) = false := by
            rw [hc, beq_eq_false_iff_ne]; intro e; exact h120 (UInt8.toNat_inj.1 (by show c.toNat = 120; omega))
          have hcut2 : cutI s.data.toList = (cutI (s.data.toList.drop (k + 1))).map (fun x => (s.data.toList.take (k + 1) ++ x.1, x.2.1, x.2.2)) := by
            rw [hcut, cutI_step c _ h45 h120, hcs]
            cases cutI (s.data.toList.drop (k + 1)) <;> simp
          have HST := Lib.hid hst; have HC := Lib.hid hcut2
          clear n1 n2 b1 b2 hcut hcut2 hcs hdr e1 e2 z1 z2 a1 a2 hst hc h45 h120
          go_wp2_with fail
          go_quiet (fail)
          go_wp2_with fail
          exact ⟨⟨k + 1, by omega, by go_num, HC.out, HST.out.later (drewN_b wr.heap.size nq wr)⟩, by simp [intOf]; omega⟩
    · obtain rfl : k = s.size := by omega
      have hn : cutI s.data.toList = none := by
        rw [hcut, List.drop_of_length_le (by rw [size_list]; exact Nat.le_refl _)]; rfl
      have hR : readI s.data.toList = ((s.data.toList, s.data.toList, [49]), natB s.data.toList) := by rw [readI, hn]
      have n1 := fun W => rnumber_any s W (by unfold maxLen; omega)
      generalize natB s.data.toList = x at n1 hR
      have N1 := Lib.hid n1; have HR := Lib.hid hR; have HS2 := Lib.hid hst
      obtain ⟨_, _, hz, c0, c1, c2, q0, q1, q2⟩ := hst
      clear n1 hR hn hcut
      go_wp2_with (go_at_call 83; refine (N1.out _).mono ?_; rintro e w' ⟨rfl, rfl⟩)
      change bodyPost Tryz.prog Tryz.f59 (ReadPost s.data.toList w) _ _ _
      refine bodyPost_ret (v := .tuple #[.agg #[.string s, .string s, .string ⟨#[49]⟩], .bool _]) (by simp [results, Tryz.results59, go_sem, c0, c1, c2, q0, q1, q2, hz]) rfl (readPost_mk HR.out (ba_eq (by simp)) (ba_eq (by simp)) rfl rfl (HS2.out.stored _ _ _))
end Go.Proofs.YtgldpdbdgjehkaaGreatDoor
