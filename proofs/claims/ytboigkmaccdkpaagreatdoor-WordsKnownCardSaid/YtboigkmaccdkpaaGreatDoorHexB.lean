/- Hex and ParseHex, of the program and of the reference. -/
import Derived.Test.YtboigkmaccdkpaaGreatDoorHexA
import Derived.Test.YtboigkmaccdkpaaGreatDoorJoin
import Derived.Deep.AppendLies
import Derived.Deep.QuietTactic
import Derived.BigQuiet
namespace Go.Proofs.YtboigkmaccdkpaaGreatDoor
open Go.RowKit Go.Shelf

def BytesAt (W : World) (v : Value) (bs : List UInt8) : Prop :=
  (bs = [] ∧ ∃ p cap, v = .slice p 0 cap) ∨
  (0 < bs.length ∧ ∃ g off cap, v = .slice (some ⟨g, off, none⟩) bs.length cap ∧ g < W.heap.size ∧ ∀ j (h : j < bs.length), W.cell? ⟨g, off + j, none⟩ = some (.int .u8 (bs[j].toNat : Int)))
theorem BytesAt.below {w w' : World} {v : Value} {bs : List UInt8} (h : BytesAt w v bs) (hb : Below w.heap.size w w') : BytesAt w' v bs := by
  rcases h with h | ⟨h0, g, off, cap, e, hg, hc⟩
  · exact .inl h
  · exact .inr ⟨h0, g, off, cap, e, Nat.lt_of_lt_of_le hg hb.size, fun j hj => (hb.cell (p := ⟨g, off + j, none⟩) hg).trans (hc j hj)⟩
theorem BytesAt.len {W : World} {v : Value} {bs : List UInt8} (h : BytesAt W v bs) : ∃ p cap, v = .slice p bs.length cap := by
  rcases h with ⟨rfl, p, cap, e⟩ | ⟨_, g, off, cap, e, _⟩
  · exact ⟨p, cap, e⟩
  · exact ⟨_, cap, e⟩
theorem bytesAt_row {W : World} {base : Nat} {t : TypeId} {v : Value} {bs : List UInt8} (h : W.ownsRow base t 1 v bs.length (byteRow bs)) : BytesAt W v bs := by
  obtain ⟨h1, ⟨rfl, h2⟩ | ⟨g, cap, cur, rfl, hg, hh, hc, hm, hz, ht⟩⟩ := h
  · exact .inl ⟨List.length_eq_zero_iff.1 h2, _, _, rfl⟩
  · cases bs with
    | nil => exact .inl ⟨rfl, _, _, rfl⟩
    | cons f r =>
      refine .inr ⟨Nat.succ_pos _, g, 0, cap, rfl, lt_of_block hh, fun j hj => ?_⟩
      have e : (byteRow (f :: r))[j]? = some (.int .u8 ((f :: r)[j].toNat : Int)) := by
        unfold byteRow; rw [List.getElem?_map, List.getElem?_eq_getElem hj]; rfl
      rw [← ht, List.getElem?_take, if_pos (by omega), Array.getElem?_toList] at e
      rw [Nat.zero_add]
      exact row_cell hh e
/-- The string of what a slice of bytes holds. -/
theorem bytesAt_str {w : World} {v : Value} {l : List UInt8} (h : BytesAt w v l) : (convert 39 9 v).run Tryz.prog w = .ok (.string ⟨l.toArray⟩) w := by
  have key : ∀ (a : Option Addr) (cap : Nat), (convert 39 9 (.slice a 0 cap)).run Tryz.prog w = .ok (.string ⟨#[]⟩) w := by
    intro a cap
    cases a with
    | none => exact run_convert_bytes_nil w 39 5 Tryz.underlying39 Tryz.underlying5 0 cap _ Tryz.underlying9
    | some a =>
      have := run_bytesToString (P := Tryz.prog) w a 0 cap []
      rw [run_convert_bytes_string w 39 9 5 _ 0 cap Tryz.underlying39 Tryz.underlying5 Tryz.underlying9]
      exact this (by simp [loadCells, loadCellsFrom])
  rcases h with ⟨rfl, p, cap, rfl⟩ | ⟨h0, g, off, cap, rfl, hg, hc⟩
  · exact key p cap
  · have := run_convert_bytes_arg (P := Tryz.prog) w 39 5 Tryz.underlying39 Tryz.underlying5 g off l.length cap (l.map fun b => (b.toNat : Int)) (by simp) (fun i hi => by
      rw [hc i hi]; simp [List.getD, List.getElem?_eq_getElem hi]) 9 Tryz.underlying9
    have e : strOfNums (l.map fun b => (b.toNat : Int)) = ⟨l.toArray⟩ := by
      refine ba_eq ?_
      rw [strOfNums_data, List.map_map]
      have : (fun n : Int => UInt8.ofNat n.toNat) ∘ (fun b : UInt8 => (b.toNat : Int)) = id := by funext b; simp
      rw [this]; simp
    rw [e] at this
    exact this

theorem below_drewN {B : Nat} {w W : World} (h : Below B w W) : ∀ n, Below B w (W.drewN n)
  | 0 => h
  | n + 1 => (below_drewN h n).drew
def HexPost (r : List UInt8 × Int) (w : World) (e : Ending) (w' : World) : Prop := e = .returned (.tuple #[.string ⟨r.1.toArray⟩, .int .i64 r.2]) ∧ Below w.heap.size w w'
theorem nibble_q (n : Nat) (hn : n < 16) (z : Int) (hz : z = n) (w : World) : Calls Tryz.prog 61 #[.int .u8 z] w fun e w' => e = .returned (.string ⟨#[hexD n]⟩) ∧ w' = w := by
  subst hz
  exact (nibble_any n hn w).mono fun e w' h => ⟨h.1, h.2.symm⟩

set_option maxHeartbeats 1000000 in
theorem rhex_some (g off cap : Nat) (bs : List UInt8) (w : World) (h0 : 0 < bs.length) (hg : g < w.heap.size) (h1 : bs.length ≤ 100)
    (hc : ∀ j (h : j < bs.length), w.cell? ⟨g, off + j, none⟩ = some (.int .u8 (bs[j].toNat : Int))) :
    Calls Tryz.prog 29 #[.slice (some ⟨g, off, none⟩) bs.length cap] w (HexPost (hexL bs, 0) w) := by
  have HC := Lib.hid hc; clear hc
  have h1' : ¬ (100 : Int) < bs.length := by omega
  go_enter Tryz.func29, Tryz.ntmps29
  go_wp2_with fail
  go_loopg [4, 5] bs.length (fun n v i wr => ∃ k : Nat, k + n = bs.length ∧ i = .int .i64 k ∧ v = .string ⟨(hexL (bs.take k)).toArray⟩ ∧ Below w.heap.size w wr)
  case atStart => exact ⟨0, by omega, by go_num, rfl, Below.refl _ _⟩
  case round =>
    obtain ⟨k, hkn, rfl, rfl, hbw⟩ := hrel
    have HB := Lib.hid hbw; clear hbw
    by_cases hlt : k < bs.length
    · obtain ⟨n', rfl⟩ : ∃ n', gk = n' + 1 := ⟨gk - 1, by omega⟩
      have c0 := (HB.out.cell (p := ⟨g, off + k, none⟩) hg).trans (HC.out k hlt)
      have hts : hexL (bs.take (k + 1)) = hexL (bs.take k) ++ [hexD (bs[k].toNat / 16), hexD (bs[k].toNat % 16)] := by rw [take_snoc' bs k hlt, hexL_snoc]
      have hll := hexL_length (bs.take k)
      rw [List.length_take] at hll
      have hb := bs[k].toNat_lt
      generalize bs[k].toNat = b at c0 hts hb
      have ik : (k : Int) < bs.length := by omega
      have cN := fun (z : Int) (n : Nat) (hn : n < 16) (hz : z = n) W => nibble_q n hn z hz W
      have HTS := Lib.hid hts; have CN := Lib.hid cN; clear hts cN
      generalize hexL (bs.take k) = L at hll HTS ⊢
      go_upto_region 7 with fail
      go_quiet (first | (go_at_call 61; refine Calls.quiet_of_same (CN.out _ (b / 16) (by omega) (by omega) _)) | (go_at_call 61; refine Calls.quiet_of_same (CN.out _ (b % 16) (by omega) (by omega) _)))
      go_wp2_with fail
      go_roundg n'
      case measure => omega
      case rel =>
        exact ⟨k + 1, by omega, by go_num, congrArg Value.string (ba_eq (by rw [HTS.out]; simp)), below_drewN HB.out _⟩
    · obtain rfl : k = bs.length := by omega
      rw [List.take_length]
      go_wp2_with fail
      go_ret2
      exact ⟨rfl, HB.out⟩
end Go.Proofs.YtboigkmaccdkpaaGreatDoor
