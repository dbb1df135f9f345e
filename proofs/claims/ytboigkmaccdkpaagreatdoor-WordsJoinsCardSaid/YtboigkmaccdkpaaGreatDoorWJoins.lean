/- WordsJoins: the walk. -/
import Derived.Test.YtboigkmaccdkpaaGreatDoorWSplits
import Derived.Test.YtboigkmaccdkpaaGreatDoorRJoin
namespace Go.Proofs.YtboigkmaccdkpaaGreatDoor
open Go.RowKit Go.Shelf

theorem joinR_small (fs : List Fld) : (joinR fs).1.length ≤ 4096 := by
  unfold joinR
  split
  · simp
  · split
    · simp
    · split
      · simp
      · simp only; omega
/-- The sum that the law takes: no string counts for more than 6001 bytes. -/
def capSum (fs : List Fld) : Nat := (fs.map fun f => min f.2.length 6001).sum
theorem capSum_snoc (fs : List Fld) (f : Fld) : capSum (fs ++ [f]) = capSum fs + min f.2.length 6001 := by simp [capSum]
theorem capSum_le (fs : List Fld) : capSum fs ≤ 6001 * fs.length := by
  induction fs with
  | nil => simp [capSum]
  | cons f r ih => simp only [capSum, List.map_cons, List.sum_cons, List.length_cons] at ih ⊢; omega
theorem capSum_mem {fs : List Fld} (h : capSum fs ≤ 6000) : ∀ f ∈ fs, f.2.length ≤ 6000 := by
  induction fs with
  | nil => simp
  | cons f r ih =>
    simp only [capSum, List.map_cons, List.sum_cons] at ih h
    intro x hx
    rcases List.mem_cons.1 hx with rfl | hx
    · omega
    · exact ih (by omega) x hx

set_option maxHeartbeats 2000000 in
theorem joins_nil (p : Option Addr) (cap : Nat) (w : World) (he : Env w) : Calls Tryz.prog 11 #[.slice p 0 cap] w fun e w' => e = .returned (.bool true) ∧ Below w.heap.size w w' := by
  have c0 := fun W hE => shown_any W hE
  have C0 := Lib.hid c0
  have HE := Lib.hid he
  have HF : Hid (FldsAt w (.slice p 0 cap) []) := Lib.hid (.inl ⟨rfl, p, cap, rfl⟩)
  have HB0 := Lib.hid (Below.refl w.heap.size w)
  clear c0 he
  go_enter Tryz.func11, Tryz.ntmps11
  go_wp2_with fail
  refine wp_loop_rounds 1 ?_
  rw [rounds_succ]
  obtain ⟨fs, hfs⟩ : ∃ fs : List Fld, fs = [] := ⟨_, rfl⟩
  rw [← hfs] at HF
  have hle : fs.length ≤ 100 := by rw [hfs]; simp
  have hsm : ∀ f ∈ fs, f.2.length ≤ 20000 := by rw [hfs]; simp
  have c1 := fun W hE hF => join_any (.slice p 0 cap) fs W hE hF hsm
  have c2 := fun W hF => fields_any (.slice p 0 cap) fs W hF (by omega)
  have c3 := fun (a : Value) (W : World) (hF : FldsAt W a fs) => rjoin_any a fs W hF hsm
  have c5 := fun (a : Value) (W : World) (hF : FldsAt W a fs) => fields_any a fs W hF (by omega)
  have c6 := fun (a b : Value) (W : World) (ha : FldsAt W a fs) (hb : FldsAt W b fs) => alike_any a b fs fs W ha hb (by unfold maxLen; omega) (by unfold maxLen; omega)
  have ht : decide (fs = fs) = true := decide_eq_true rfl
  rw [ht] at c6
  have hsj := @split_join fs
  have hjl : (joinR fs).1.length ≤ 4096 := joinR_small fs
  have c4 := fun W hE => split_any ⟨(joinR fs).1.toArray⟩ W hE (by rw [ba_size]; unfold maxLen; omega)
  unfold SplitPost at c4
  rw [show (⟨(joinR fs).1.toArray⟩ : ByteArray).data.toList = (joinR fs).1 by simp] at c4
  unfold JoinPost at c1 c3
  generalize joinR fs = r at c1 c3 hsj c4
  obtain ⟨L, er⟩ := r
  simp only at c1 c3 hsj c4
  have C1 := Lib.hid c1; have C2 := Lib.hid c2; have C3 := Lib.hid c3; have C5 := Lib.hid c5; have C6 := Lib.hid c6
  clear c1 c2 c3 c5 c6 ht hsm hjl
  by_cases h0 : er = 0
  · subst h0
    rw [hsj rfl] at c4
    simp only at c4
    have C4 := Lib.hid c4; clear c4 hsj
    go_wp2_with (first
    | (go_at_call 40; refine (C1.out _ (HE.out.below HB0.out) (HF.out.below HB0.out)).mono ?_; rintro e w1 ⟨rfl, hb1⟩; have HB1 := Lib.hid (HB0.out.trans (hb1.mono HB0.out.size)); clear hb1 C1)
    | (go_at_call 39; refine (C2.out _ (HF.out.below HB1.out)).mono ?_; rintro e w2 ⟨a2, rfl, hown2, hb2⟩; have HO2 := Lib.hid hown2; have HB2 := Lib.hid (HB1.out.trans (hb2.mono HB1.out.size)); clear hown2 hb2 C2)
    | (go_at_call 41; refine (C3.out _ _ (fldsAt_row HO2.out)).mono ?_; rintro e w3 ⟨rfl, hb3⟩; have HB3 := Lib.hid (HB2.out.trans (hb3.mono HB2.out.size)); clear hb3 C3)
    | (go_at_call 36; refine (C4.out _ (HE.out.below HB3.out)).mono ?_; rintro e w4 ⟨a4, rfl, hown4, hb4⟩; have HO4 := Lib.hid hown4; have HB4 := Lib.hid (HB3.out.trans (hb4.mono HB3.out.size)); clear hown4 hb4 C4)
    | (go_at_call 39; refine (C5.out _ _ (fldsAt_row HO4.out)).mono ?_; rintro e w5 ⟨a5, rfl, hown5, hb5⟩; have HO5 := Lib.hid hown5; have HB5 := Lib.hid (HB4.out.trans (hb5.mono HB4.out.size)); clear hown5 hb5; clear HO4)
    | (go_at_call 39; refine (C5.out _ _ (HF.out.below HB5.out)).mono ?_; rintro e w6 ⟨a6, rfl, hown6, hb6⟩; have HO56 := Lib.hid (ownsRow_below HO5.out hb6); have HO6 := Lib.hid hown6; have HB6 := Lib.hid (HB5.out.trans (hb6.mono HB5.out.size)); clear hown6 hb6 C5)
    | (go_at_call 38; refine (C6.out _ _ _ (fldsAt_row HO56.out) (fldsAt_row HO6.out)).mono ?_; rintro e w7 ⟨rfl, hb7⟩; have HB7 := Lib.hid (HB6.out.trans (hb7.mono HB6.out.size)); clear hb7)
    | (go_at_call 14; refine (C0.out _ (HE.out.below HB7.out)).mono ?_; rintro e w8 ⟨rfl, hb8⟩; have HB8 := Lib.hid (HB7.out.trans (hb8.mono HB7.out.size)); clear hb8))
    go_ret
    exact ⟨rfl, HB8.out⟩
  · have h1 : (er == 0) = false := beq_eq_false_iff_ne.2 h0
    clear c4 hsj h0
    go_wp2_with (first
    | (go_at_call 40; refine (C1.out _ (HE.out.below HB0.out) (HF.out.below HB0.out)).mono ?_; rintro e w1 ⟨rfl, hb1⟩; have HB1 := Lib.hid (HB0.out.trans (hb1.mono HB0.out.size)); clear hb1 C1)
    | (go_at_call 39; refine (C2.out _ (HF.out.below HB1.out)).mono ?_; rintro e w2 ⟨a2, rfl, hown2, hb2⟩; have HO2 := Lib.hid hown2; have HB2 := Lib.hid (HB1.out.trans (hb2.mono HB1.out.size)); clear hown2 hb2 C2)
    | (go_at_call 41; refine (C3.out _ _ (fldsAt_row HO2.out)).mono ?_; rintro e w3 ⟨rfl, hb3⟩; have HB3 := Lib.hid (HB2.out.trans (hb3.mono HB2.out.size)); clear hb3 C3)
    | (go_at_call 14; refine (C0.out _ (HE.out.below HB3.out)).mono ?_; rintro e w8 ⟨rfl, hb8⟩; have HB8 := Lib.hid (HB3.out.trans (hb8.mono HB3.out.size)); clear hb8))
    go_ret
    exact ⟨rfl, HB8.out⟩

set_option maxHeartbeats 2000000 in
theorem joins_some (g off cap : Nat) (fs : List Fld) (w : World) (he : Env w) (h0 : 0 < fs.length) (hg : g < w.heap.size) (hlm : fs.length ≤ maxLen) (hsz : ∀ f ∈ fs, f.2.length ≤ maxLen)
    (hc : ∀ j (h : j < fs.length), w.cell? ⟨g, off + j * 2, none⟩ = some (.bool fs[j].1) ∧ w.cell? ⟨g, off + j * 2 + 1, none⟩ = some (.string ⟨fs[j].2.toArray⟩)) :
    Calls Tryz.prog 11 #[.slice (some ⟨g, off, none⟩) fs.length cap] w fun e w' => e = .returned (.bool true) ∧ Below w.heap.size w w' := by
  have c0 := fun W hE => shown_any W hE
  have C0 := Lib.hid c0
  have HE := Lib.hid he
  have HF : Hid (FldsAt w (.slice (some ⟨g, off, none⟩) fs.length cap) fs) := Lib.hid (.inr ⟨h0, g, off, cap, rfl, hg, hc⟩)
  have HC := Lib.hid hc; have HS := Lib.hid hsz; have HLM := Lib.hid hlm
  clear c0 he hc hsz hlm
  by_cases h100 : 100 < fs.length
  · have h100' : (100 : Int) < fs.length := by omega
    go_enter Tryz.func11, Tryz.ntmps11
    go_wp2_with (go_at_call 14; refine (C0.out _ HE.out).mono ?_; rintro e w' ⟨rfl, hb⟩)
    go_ret
    exact ⟨rfl, hb⟩
  · have h100' : ¬ (100 : Int) < fs.length := by omega
    have hle : fs.length ≤ 100 := by omega
    go_enter Tryz.func11, Tryz.ntmps11
    go_wp2_with fail
    go_loopg [3, 4] fs.length (fun n v i wr => ∃ k : Nat, k + n = fs.length ∧ i = .int .i64 k ∧ v = .int .i64 (capSum (fs.take k) : Nat) ∧ wr = w)
    case atStart => exact ⟨0, by omega, by go_num, rfl, rfl⟩
    case round =>
      obtain ⟨k, hkn, rfl, rfl, rfl⟩ := hrel
      by_cases hlt : k < fs.length
      · obtain ⟨n', rfl⟩ : ∃ n', gk = n' + 1 := ⟨gk - 1, by omega⟩
        have c0 := (HC.out k hlt).1
        have c1 := (HC.out k hlt).2
        have hts : capSum (fs.take (k + 1)) = capSum (fs.take k) + min fs[k].2.length 6001 := by rw [take_snoc' fs k hlt, capSum_snoc]
        have hcs := capSum_le (fs.take k)
        rw [List.length_take] at hcs
        have hxl := HS.out _ (List.getElem_mem hlt)
        generalize fs[k] = f at c0 c1 hts hxl
        generalize capSum (fs.take k) = S at hts hcs ⊢
        have HTS := Lib.hid hts; have HXL := Lib.hid hxl; clear hts hxl
        have ik : (k : Int) < fs.length := by omega
        go_wp2_with fail
        go_roundg n'
        case measure => omega
        case rel => exact ⟨k + 1, by omega, by go_num, congrArg (Value.int .i64) (by rw [HTS.out]; omega), rfl⟩
      · obtain rfl : k = fs.length := by omega
        rw [List.take_length]
        have HB0 := Lib.hid (Below.refl wr.heap.size wr)
        have hcs := capSum_le fs
        clear HC HS
        by_cases h6 : 6000 < capSum fs
        · have h6' : (6000 : Int) < (capSum fs : Nat) := by omega
          go_wp2_with (go_at_call 14; refine (C0.out _ HE.out).mono ?_; rintro e w' ⟨rfl, hb⟩)
          go_ret
          exact ⟨rfl, hb⟩
        · have h6' : ¬ (6000 : Int) < (capSum fs : Nat) := by omega
          have hsm : ∀ f ∈ fs, f.2.length ≤ 20000 := fun f hf => by have := capSum_mem (show capSum fs ≤ 6000 by omega) f hf; omega
          have c1 := fun W hE hF => join_any (.slice (some ⟨g, off, none⟩) fs.length cap) fs W hE hF hsm
          have c2 := fun W hF => fields_any (.slice (some ⟨g, off, none⟩) fs.length cap) fs W hF (by omega)
          have c3 := fun (a : Value) (W : World) (hF : FldsAt W a fs) => rjoin_any a fs W hF hsm
          have c5 := fun (a : Value) (W : World) (hF : FldsAt W a fs) => fields_any a fs W hF (by omega)
          have c6 := fun (a b : Value) (W : World) (ha : FldsAt W a fs) (hb : FldsAt W b fs) => alike_any a b fs fs W ha hb (by unfold maxLen; omega) (by unfold maxLen; omega)
          have ht : decide (fs = fs) = true := decide_eq_true rfl
          rw [ht] at c6
          have hsj := @split_join fs
          have hjl : (joinR fs).1.length ≤ 4096 := joinR_small fs
          have c4 := fun W hE => split_any ⟨(joinR fs).1.toArray⟩ W hE (by rw [ba_size]; unfold maxLen; omega)
          unfold SplitPost at c4
          rw [show (⟨(joinR fs).1.toArray⟩ : ByteArray).data.toList = (joinR fs).1 by simp] at c4
          unfold JoinPost at c1 c3
          generalize joinR fs = r at c1 c3 hsj c4
          obtain ⟨L, er⟩ := r
          simp only at c1 c3 hsj c4
          have C1 := Lib.hid c1; have C2 := Lib.hid c2; have C3 := Lib.hid c3; have C5 := Lib.hid c5; have C6 := Lib.hid c6
          clear c1 c2 c3 c5 c6 ht hsm hjl
          by_cases h0 : er = 0
          · subst h0
            rw [hsj rfl] at c4
            simp only at c4
            have C4 := Lib.hid c4; clear c4 hsj
            go_wp2_with (first
            | (go_at_call 40; refine (C1.out _ (HE.out.below HB0.out) (HF.out.below HB0.out)).mono ?_; rintro e w1 ⟨rfl, hb1⟩; have HB1 := Lib.hid (HB0.out.trans (hb1.mono HB0.out.size)); clear hb1 C1)
            | (go_at_call 39; refine (C2.out _ (HF.out.below HB1.out)).mono ?_; rintro e w2 ⟨a2, rfl, hown2, hb2⟩; have HO2 := Lib.hid hown2; have HB2 := Lib.hid (HB1.out.trans (hb2.mono HB1.out.size)); clear hown2 hb2 C2)
            | (go_at_call 41; refine (C3.out _ _ (fldsAt_row HO2.out)).mono ?_; rintro e w3 ⟨rfl, hb3⟩; have HB3 := Lib.hid (HB2.out.trans (hb3.mono HB2.out.size)); clear hb3 C3)
            | (go_at_call 36; refine (C4.out _ (HE.out.below HB3.out)).mono ?_; rintro e w4 ⟨a4, rfl, hown4, hb4⟩; have HO4 := Lib.hid hown4; have HB4 := Lib.hid (HB3.out.trans (hb4.mono HB3.out.size)); clear hown4 hb4 C4)
            | (go_at_call 39; refine (C5.out _ _ (fldsAt_row HO4.out)).mono ?_; rintro e w5 ⟨a5, rfl, hown5, hb5⟩; have HO5 := Lib.hid hown5; have HB5 := Lib.hid (HB4.out.trans (hb5.mono HB4.out.size)); clear hown5 hb5; clear HO4)
            | (go_at_call 39; refine (C5.out _ _ (HF.out.below HB5.out)).mono ?_; rintro e w6 ⟨a6, rfl, hown6, hb6⟩; have HO56 := Lib.hid (ownsRow_below HO5.out hb6); have HO6 := Lib.hid hown6; have HB6 := Lib.hid (HB5.out.trans (hb6.mono HB5.out.size)); clear hown6 hb6 C5)
            | (go_at_call 38; refine (C6.out _ _ _ (fldsAt_row HO56.out) (fldsAt_row HO6.out)).mono ?_; rintro e w7 ⟨rfl, hb7⟩; have HB7 := Lib.hid (HB6.out.trans (hb7.mono HB6.out.size)); clear hb7)
            | (go_at_call 14; refine (C0.out _ (HE.out.below HB7.out)).mono ?_; rintro e w8 ⟨rfl, hb8⟩; have HB8 := Lib.hid (HB7.out.trans (hb8.mono HB7.out.size)); clear hb8))
            go_ret
            exact ⟨rfl, HB8.out⟩
          · have h1 : (er == 0) = false := beq_eq_false_iff_ne.2 h0
            clear c4 hsj h0
            go_wp2_with (first
            | (go_at_call 40; refine (C1.out _ (HE.out.below HB0.out) (HF.out.below HB0.out)).mono ?_; rintro e w1 ⟨rfl, hb1⟩; have HB1 := Lib.hid (HB0.out.trans (hb1.mono HB0.out.size)); clear hb1 C1)
            | (go_at_call 39; refine (C2.out _ (HF.out.below HB1.out)).mono ?_; rintro e w2 ⟨a2, rfl, hown2, hb2⟩; have HO2 := Lib.hid hown2; have HB2 := Lib.hid (HB1.out.trans (hb2.mono HB1.out.size)); clear hown2 hb2 C2)
            | (go_at_call 41; refine (C3.out _ _ (fldsAt_row HO2.out)).mono ?_; rintro e w3 ⟨rfl, hb3⟩; have HB3 := Lib.hid (HB2.out.trans (hb3.mono HB2.out.size)); clear hb3 C3)
            | (go_at_call 14; refine (C0.out _ (HE.out.below HB3.out)).mono ?_; rintro e w8 ⟨rfl, hb8⟩; have HB8 := Lib.hid (HB3.out.trans (hb8.mono HB3.out.size)); clear hb8))
            go_ret
            exact ⟨rfl, HB8.out⟩
theorem joins_walk (v : Value) (fs : List Fld) (w : World) (he : Env w) (h : FldsAt w v fs) (hlm : fs.length ≤ maxLen) (hsz : ∀ f ∈ fs, f.2.length ≤ maxLen) : Calls Tryz.prog 11 #[v] w fun e w' => e = .returned (.bool true) ∧ Below w.heap.size w w' := by
  rcases h with ⟨rfl, p, cap, rfl⟩ | ⟨h0, g, off, cap, rfl, hg, hc⟩
  · exact joins_nil p cap w he
  · exact joins_some g off cap fs w he h0 hg hlm hsz hc
end Go.Proofs.YtboigkmaccdkpaaGreatDoor
