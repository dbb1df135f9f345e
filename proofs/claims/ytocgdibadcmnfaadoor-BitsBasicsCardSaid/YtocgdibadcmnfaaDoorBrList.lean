/- The reference's List: valid bits as a list. -/
import Derived.Test.YtocgdibadcmnfaaDoorBtSameRuns
import Derived.RegionTactic
namespace Go.Proofs.YtocgdibadcmnfaaDoor
open Go.RowKit Go.Shelf

theorem info_bool : (Tryd.prog.info? 4).map (fun i => (i.zero, i.size, i.bytes)) = some (some (.bool false), 1, 1) := by kernel_rfl
/-- The first k of these, as cells. -/
def boolC (f : Nat → Bool) (k : Nat) : List Value := (List.range k).map fun i => .bool (f i)
theorem boolC_succ (f : Nat → Bool) (k : Nat) : boolC f (k + 1) = boolC f k ++ [.bool (f k)] := by simp [boolC, List.range_succ]
theorem boolC_len (f : Nat → Bool) (k : Nat) : (boolC f k).length = k := by simp [boolC]
theorem ownB_below {w w' : World} {base : Nat} {e : TypeId} {size : Nat} {v : Value} {n : Nat} {xs : List Value} (h : w.ownsRow base e size v n xs) (hb : Below w.heap.size w w') : w'.ownsRow base e size v n xs := by
  obtain ⟨h1, h2⟩ := h
  refine ⟨h1, ?_⟩
  rcases h2 with h2 | ⟨g, cap, cur, hv, hg, hh, r⟩
  · exact .inl h2
  · exact .inr ⟨g, cap, cur, hv, hg, (hb.block g (Array.getElem?_eq_some_iff.1 hh).1).trans hh, r⟩
theorem ownB_block {w : World} {base : Nat} {e : TypeId} {size : Nat} {v : Value} {n : Nat} {xs : List Value} (h : w.ownsRow base e size v n xs) : ∀ k, v.ownBlock = some k → base ≤ k := fun k e => (h.lt k e).1
theorem cellB_one (w : World) (a : Value) (t : TypeId) (n : Nat) (hn : n = w.heap.size) : ∀ j u, [a][j]? = some u → (w.alloc (.cells #[a] t)).cell? ((⟨n, 0, none⟩ : Addr).add j) = some u := by
  subst hn
  intro j u hu
  rw [WideShapes.add_plain]
  have h := heap_alloc_new w (.cells #[a] t)
  match j, hu with
  | 0, hu => exact row_cell h (by simpa using hu)
theorem bool_one (b : Bool) : ∀ u ∈ [Value.bool b], u.oneCell' = true := by
  intro u hu
  obtain rfl := List.mem_singleton.1 hu
  rfl
/-- A list of truth values in a call's own memory. -/
def ListPost (f : Nat → Bool) (m : Nat) (w : World) (e : Ending) (w' : World) : Prop := ∃ v, e = .returned v ∧ Below w.heap.size w w' ∧ w'.ownsRow w.heap.size 4 1 v m (boolC f m)
set_option maxHeartbeats 2000000 in
set_option maxRecDepth 100000 in
theorem rlist_any (m : Nat) (p : Option Addr) (cap : Nat) (ws : List Nat) (w : World) (h : WordsAt w p ws) (hv : Valid m ws) :
    Calls Tryd.prog 54 #[.agg #[.int .i64 (m : Int), .slice p ws.length cap]] w (ListPost (bitN ws) m w) := by
  obtain ⟨hr1, hr2⟩ := valid_room hv
  have hm := hv.le
  have HW := Lib.hid h
  clear h hv
  obtain ⟨i0, hi, hz0, hz1, hz2⟩ := info_parts info_bool
  have HI := Lib.hid hi; have HZ0 := Lib.hid hz0; have HZ1 := Lib.hid hz1; have HZ2 := Lib.hid hz2
  clear hi hz0 hz1 hz2
  go_enter Tryd.func54, Tryd.ntmps54
  go_wp2_with fail
  go_loopg [3, 4] m (fun n v i wr => ∃ k : Nat, k + n = m ∧ i = .int .i64 k ∧ (∃ v', v' = v ∧ wr.ownsRow (w.heap.size + 1) 4 1 v' k (boolC (bitN ws) k)) ∧ Below w.heap.size w wr ∧ BoxAt wr w.heap.size m (.slice p ws.length cap))
  case atStart => exact ⟨0, by omega, by go_num, ⟨_, rfl, World.ownsRow_nil _ _ _ _⟩, (Below.refl _ _).alloc (Nat.le_refl _) _, BoxAt.new _ _ _ _⟩
  case round =>
    obtain ⟨k, hkn, rfl, ⟨v, rfl, hown⟩, hbw, hbx⟩ := hrel
    have b0 := hbx.c0; have b1 := hbx.c1
    have HO := Lib.hid hown; have HB := Lib.hid hbw; have HX := Lib.hid hbx
    have hz := hbx.lt
    clear hown hbw hbx
    by_cases hlt : k < m
    · obtain ⟨n', rfl⟩ : ∃ n', gk = n' + 1 := ⟨gk - 1, by omega⟩
      have hq : k / 64 < ws.length := by omega
      obtain ⟨g, off, rfl, hg, hc⟩ := (HW.out.below HB.out).at_ (by omega)
      have c0 := hc (k / 64) hq
      have hb := bitN_in (ws := ws) hq
      have i1 : (k : Int) < m := by omega
      have k0 : (0 : Int) ≤ k := by omega
      have k4 : (k : Int) ≤ 4096 := by omega
      have i2 : (k : Int) / 64 < ws.length := by omega
      have hx := word_in HW.out.lt (k / 64) hq
      have ht := bit_expr ws[k / 64] (k % 64) hx
      rw [← hb] at ht
      have hs := boolC_succ (bitN ws) k
      generalize ws[k / 64] = x at c0 ht
      generalize bitN ws k = bt at ht hs
      have hb1 : k + 1 ≤ maxLen := by unfold maxLen; omega
      have hb2 : (k + 1) * 1 ≤ 140737488355328 := by omega
      have HL1 := Lib.hid hb1; have HL2 := Lib.hid hb2; have H1C := Lib.hid (bool_one bt); have HS := Lib.hid hs
      clear hc hb hx hs hb1 hb2
      go_wp2_with (at_builtin; refine wpList_append_own _ rfl _ _ 61 rfl (w.heap.size + 1) 4 i0 (.bool false) 1 1 Tryd.underlying61 HI.out HZ0.out HZ1.out HZ2.out rfl (by decide) _ _ _ rfl (HO.out.alloc _) ⟨wr.heap.size, 0, none⟩ 1 1 [.bool bt] rfl rfl (cellB_one _ _ _ _ rfl) H1C.out HL1.out HL2.out (by simp; omega) ?_; intro v4 w4 hown4 hgrow4 hnil4)
      have hbb : Below (w.heap.size + 1) wr w4 := ((Below.refl _ _).alloc (by omega) _).grown hgrow4 (by simp; omega) (ownB_block HO.out)
      go_roundg n'
      case measure => omega
      case rel => exact ⟨k + 1, by omega, by go_num, ⟨v4, rfl, by rw [HS.out]; exact hown4⟩, HB.out.trans (hbb.mono (by omega)), HX.out.under hbb (by omega)⟩
    · obtain rfl : k = m := by omega
      go_wp2_with fail
      go_ret
      exact ⟨v, rfl, HB.out, ownsRow_base HO.out (by omega)⟩
end Go.Proofs.YtocgdibadcmnfaaDoor
