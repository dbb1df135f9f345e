/- What the rows with the table of the hexadecimal digits list; bytes that came in. -/
import Derived.Test.YtboigkmaccdkpaaGreatDoorSliceArgs
import Derived.Test.YtboigkmaccdkpaaGreatDoorHexB
namespace Go.Proofs.YtboigkmaccdkpaaGreatDoor
open Go.ChangeShapes Go.WideShapes Go.ChangeAt Go.RowKit Go.Lib

def laidH : List (String × DataW Unit) := [("math/bits.deBruijn32tab", Rows.laid_math_bits_deBruijn32tab), ("math/bits.deBruijn64tab", Rows.laid_math_bits_deBruijn64tab), ("internal/strconv.uint64pow10", Rows.laid_internal_strconv_uint64pow10), ("unicode/utf8.acceptRanges", Rows.laid_unicode_utf8_acceptRanges), ("strconv.ErrRange", Rows.laid_strconv_ErrRange), ("strconv.ErrSyntax", Rows.laid_strconv_ErrSyntax), ("polder/words.hexDigits", Rows.laid_polder_words_hexDigits), ("unicode/utf8.first", Rows.laid_unicode_utf8_first)]
theorem envH_of {W : World} (hL : laidMet Tryz.prog laidH W) (hsh : W.ShapedOpen Tryz.prog) : Env W := by
  refine ⟨?_, ?_, ?_, ?_⟩
  · obtain ⟨ps, ⟨g, t, cs, fuel, p, q, hg, _, hv, _⟩, _⟩ := hL.tail
    exact var_lt (g := 8) (by kernel_rfl) hv
  · exact Go.Proofs.cell_of_shapedOpen_int (zero := #[.int .i64 0]) (t := 3) hsh (of_decide_eq_true (by kernel_rfl)) (by kernel_rfl) rfl (by kernel_rfl) (by kernel_rfl) Tryz.underlying3
  · exact Lib.tabIs_of_head (g := 4) (t := 148) (e := 117) (n := 20) (by kernel_rfl) (by kernel_rfl) Tryz.underlying148 Tryz.underlying117 (by kernel_rfl) (by kernel_rfl) hL.tail.tail
  · obtain ⟨a, s, hv, _⟩ := laid_sentinel (g := 3) hL.tail.tail.tail.tail (by kernel_rfl) (by kernel_rfl) Tryz.underlying69 rowE Tryz.underlying153 Tryz.underlying155 rfl rfl Tryz.underlying9 (by kernel_rfl) (by kernel_rfl)
    exact ⟨_, _, hv⟩
theorem hex_tab : ∀ k : Nat, k < 16 → ((hexTab.map fun c => Value.int .u8 ((c.toNat : Int))).toArray)[k]? = some (.int .u8 ((hexD k).toNat : Int)) := by
  intro k hk
  have h16 : hexTab.length = 16 := rfl
  rw [List.getElem?_toArray, List.getElem?_map, List.getElem?_eq_getElem (by omega)]
  unfold hexD
  rw [List.getD_eq_getElem?_getD, List.getElem?_eq_getElem (by omega)]; rfl
theorem hexIs_of {W : World} (hL : laidMet Tryz.prog laidH W) : HexIs W := by
  have h : Lib.TabIs Tryz.prog W "polder/words.hexDigits" .u8 (hexTab.map fun c => (c.toNat : Int)) :=
    Lib.tabIs_of_head (g := 0) (t := 87) (e := 5) (n := 16) (by kernel_rfl) (by kernel_rfl) Tryz.underlying87 Tryz.underlying5 (by kernel_rfl) (by kernel_rfl) hL.tail.tail.tail.tail.tail.tail
  unfold Lib.TabIs at h
  intro k hk
  rw [World.var?_cell (g := 0) (by kernel_rfl) h k, List.map_map]
  exact hex_tab k hk
theorem laidH_met (os : Os) (args : Array Value) : laidMet Tryz.prog laidH ((laidWorld os).forCall (fun _ _ => 0) ⟨#[], args, []⟩).memory :=
  laidMet_of_run3 8 (by kernel_rfl) (by kernel_rfl) (by kernel_rfl)

theorem cellsU : Tryz.prog.cellsOf 5 = 1 := by kernel_rfl
theorem open_bytes {H : Type} {enc : TypeId × Value → H} {W : World} {a0 : Option Addr} {len cap fuel : Nat} {x : DataW H × List MemPlace}
    (hf : DataW.trod enc Tryz.prog W 0 (fun _ => true) true fuel 39 (Value.slice a0 len cap).cells.toList = some x) :
    ∃ bs : List UInt8, BytesAt W (.slice a0 len cap) bs ∧ bs.length ≤ maxLen := by
  rcases open_ints Tryz.underlying39 Tryz.underlying5 cellsU hf with ⟨hcs, hx⟩ | ⟨a, len', cap', zs, hcs, hb, hl, hm, hz, hx, hcell, hwz⟩
  · simp [Value.cells] at hcs
    obtain ⟨rfl, rfl, rfl⟩ := hcs
    exact ⟨[], .inl ⟨rfl, _, _, rfl⟩, by simp⟩
  · simp [Value.cells] at hcs
    obtain ⟨rfl, rfl, rfl⟩ := hcs
    simp only [if_true] at hz
    by_cases h0 : len = 0
    · subst h0
      exact ⟨[], .inl ⟨rfl, _, _, rfl⟩, by simp⟩
    · obtain ⟨b, off, spot⟩ := a
      have hspot : spot = none := by simpa [Addr.add] using World.cell?_spot (hcell 0 (by omega))
      subst hspot
      have hbl : b < W.heap.size := World.block_lt_of_cell? W _ (hcell 0 (by omega))
      have hlen : ((zs.take len).map fun n => UInt8.ofNat n.toNat).length = len := by rw [List.length_map, List.length_take]; omega
      refine ⟨(zs.take len).map fun n => UInt8.ofNat n.toNat, .inr ⟨by omega, b, off, _, by rw [hlen], hbl, ?_⟩, by omega⟩
      intro j hj
      rw [hlen] at hj
      have h1 := hcell j (by omega)
      have hjz : j < zs.length := by omega
      have hw := hwz zs[j] (List.getElem_mem hjz)
      have hr : 0 ≤ zs[j] ∧ zs[j] ≤ 255 := by simpa [Lit.wf, IntKind.min, IntKind.max, IntKind.signed, IntKind.bits] using hw
      have e : zs.getD j 0 = zs[j] := by simp [List.getD, List.getElem?_eq_getElem hjz]
      rw [e] at h1
      rw [← WideShapes.add_plain, h1]
      congr 2
      rw [List.getElem_map, List.getElem_take, UInt8.toNat_ofNat']
      omega
end Go.Proofs.YtboigkmaccdkpaaGreatDoor
