/- fields: the program's fields, laid as the reference's. -/
import Derived.Test.YtgldpdbdgjehkaaGreatDoorAlike
import Derived.Deep.AppendLies
namespace Go.Proofs.YtgldpdbdgjehkaaGreatDoor
open Go.RowKit Go.Shelf

theorem info_rfield : (Tryz.prog.info? 65).map (fun i => (i.zero, i.size, i.bytes)) = some (some (.agg #[.bool false, .string ⟨#[]⟩]), 2, 24) := by kernel_rfl
def FieldsPost (fs : List Fld) (w : World) (e : Ending) (w' : World) : Prop :=
  ∃ v, e = .returned v ∧ w'.ownsRow w.heap.size 65 2 v fs.length (fldCells fs) ∧ Below w.heap.size w w'
def FInv (fs : List Fld) (w : World) (k : Nat) (v : Value) (wr : World) : Prop :=
  wr.ownsRow w.heap.size 65 2 v (fs.take k).length (fldCells (fs.take k)) ∧ Below w.heap.size w wr

set_option maxHeartbeats 1000000 in
set_option maxRecDepth 100000 in
theorem fields_any (a : Value) (fs : List Fld) (w : World) (ha : FldsAt w a fs) (hx : fs.length ≤ 100000) :
    Calls Tryz.prog 39 #[a] w (FieldsPost fs w) := by
  rcases ha with ⟨rfl, p, cap, rfl⟩ | ⟨h0, g, off, cap, rfl, hg, hc⟩
  · go_enter Tryz.func39, Tryz.ntmps39
    go_wp2_with fail
    refine wp_loop_rounds 1 ?_
    rw [rounds_succ]
    go_wp2_with fail
    go_ret
    exact ⟨_, rfl, World.ownsRow_nil _ _ _ _, Below.refl _ _⟩
  · obtain ⟨i0, hi, hz0, hz1, hz2⟩ := info_parts info_rfield
    have HC := Lib.hid hc
    have HI := Lib.hid hi; have HZ0 := Lib.hid hz0; have HZ1 := Lib.hid hz1; have HZ2 := Lib.hid hz2
    clear hc hi hz0 hz1 hz2
    go_enter Tryz.func39, Tryz.ntmps39
    go_wp2_with fail
    go_loopw [3, 4] (fun v i wr => ∃ k : Nat, k ≤ fs.length ∧ i = .int .i64 k ∧ ∃ v', v' = v ∧ FInv fs w k v' wr) (fun _ i _ => fs.length - (intOf i).toNat)
    case atStart => exact ⟨0, Nat.zero_le _, rfl, _, rfl, World.ownsRow_nil _ _ _ _, Below.refl _ _⟩
    case round =>
      obtain ⟨k, hk, rfl, v, rfl, hown, hbw⟩ := hrel
      have HB := Lib.hid hbw; clear hbw
      by_cases hlt : k < fs.length
      · have c0 := (HB.out.cell (p := ⟨g, off + k * 2, none⟩) hg).trans (HC.out k hlt).1
        have c1 := (HB.out.cell (p := ⟨g, off + k * 2 + 1, none⟩) hg).trans (HC.out k hlt).2
        obtain ⟨⟨xq, xt⟩, e0⟩ : ∃ p, fs[k] = p := ⟨_, rfl⟩
        rw [e0] at c0 c1
        simp only at c0 c1
        have ik : (k : Int) < fs.length := by omega
        have htl : (fs.take k).length = k := by rw [List.length_take]; omega
        rw [htl] at hown
        have hmx : k + 1 ≤ maxLen := by unfold maxLen; omega
        have hby : (k + 1) * 24 ≤ 140737488355328 := by omega
        have h1c := fld_one xq xt
        have E0 := Lib.hid e0; have HO := Lib.hid hown; have HM := Lib.hid hmx; have HY := Lib.hid hby; have H1C := Lib.hid h1c
        clear e0 hown htl hmx hby h1c
        go_wp2_with fail
        have ho : (wr.drew).ownsRow w.heap.size 65 2 v k (fldCells (fs.take k)) := ownsRow_below HO.out ((Below.refl _ _).drew)
        have HO2 := Lib.hid ho; clear ho
        go_region_law (refine step_append_lies _ rfl (.tmp 11) (.tmp 23) 48 rfl w.heap.size 65 i0 (.agg #[.bool false, .string ⟨#[]⟩]) 2 24 Tryz.underlying48 HI.out HZ0.out HZ1.out HZ2.out rfl (by decide) v k (fldCells (fs.take k)) rfl (ownsRow_below HO2.out ((Below.refl _ _).alloc (Nat.le_refl _) _)) ⟨wr.heap.size, 0, none⟩ 1 1 [.bool xq, .string ⟨xt.toArray⟩] rfl rfl (cell_two_at _ _ _ _ _ rfl) H1C.out (by decide) HM.out HY.out (by have := HB.out.size; simp; omega) _ rfl ?_; intro g4 cap4 w4 hown4 hgrow4 hg4 hlt4)
        all_goals
          go_wp2_with fail
          refine ⟨⟨k + 1, by omega, by go_num, _, rfl, ?_, ?_⟩, by simp [intOf]; omega⟩
          · rw [take_snoc' fs k hlt, fldCells_snoc, List.length_append, E0.out, List.length_take, Nat.min_eq_left (by omega)]; exact hown4
          · have hb : Below w.heap.size w (wr.alloc (.cells #[.bool xq, .string ⟨xt.toArray⟩] 65)).drew := (HB.out.alloc HB.out.size _).drew
            exact hb.grown hgrow4 (by have := HB.out.size; simp; omega) (own_block HO.out)
      · have hkl : k = fs.length := by omega
        subst hkl
        rw [List.take_length] at hown
        have HO := Lib.hid hown; clear hown
        go_wp2_with fail
        go_ret
        exact ⟨_, rfl, HO.out, HB.out⟩
end Go.Proofs.YtgldpdbdgjehkaaGreatDoor
