/-
  Rows of bytes that a call makes for itself: make, one store, and the text that is made of them.
-/
import Derived.Test.YtpiajecfhppfeaaDoorSumW1
import Derived.Laws.BytesString
import Derived.Laws.Rows
namespace Go.Proofs.YtpiajecfhppfeaaDoor
open Go.RowKit

def rowV (l : List Nat) : Array Value := (l.map fun b : Nat => Value.int .u8 (b : Int)).toArray
theorem rowV_size (l : List Nat) : (rowV l).size = l.length := by simp [rowV]
theorem rowV_get (l : List Nat) (i : Nat) (h : i < l.length) : (rowV l)[i]? = some (.int .u8 ((l.getD i 0 : Nat) : Int)) := by
  simp [rowV, h]
theorem rowV_set (l : List Nat) (i b : Nat) : (rowV l).setIfInBounds i (.int .u8 (b : Int)) = rowV (l.set i b) := by
  simp [rowV, List.map_set]
def zerosL (n : Nat) : List Nat := List.replicate n 0
theorem madeCells_bytes (n : Nat) : madeCells (Value.cells (.int .u8 0)) (n * 1) = rowV (zerosL n) := by
  apply Array.ext
  · rw [size_madeCells, rowV_size]; simp [zerosL]
  · intro i h1 h2
    simp [madeCells, Value.cells, rowV, zerosL, Nat.mod_one]

theorem info_u8 : (Tryd.prog.info? 5).map (fun i => (i.zero, i.size, i.bytes)) = some (some (.int .u8 0), 1, 1) := by kernel_rfl
theorem make_bytes (n : Nat) (h : n ≤ 140737488351232) (W : World) :
    (Instr.makeSlice 51 (.int .i64 n) (.int .i64 n)).run Tryd.prog W = .ok (.slice (some ⟨W.heap.size, 0, none⟩) n n) (W.alloc (.cells (rowV (zerosL n)) 5)) := by
  obtain ⟨i0, hi, hz0, hz1, hz2⟩ := info_parts info_u8
  have := run_make (P := Tryd.prog) W 51 5 i0 (.int .u8 0) Tryd.underlying51 hi hz0 .i64 .i64 n n (by omega) (by omega) (by rw [hz2]; omega) (by omega)
  rw [this]
  simp only [Int.toNat_natCast, hz1, madeCells_bytes]

theorem empty_list : ByteArray.empty.data.toList = [] := rfl
theorem push_data (l : List Nat) (r : ByteArray) : ((l.map Int.ofNat).foldl (fun r n => r.push (UInt8.ofNat n.toNat)) r).data.toList = r.data.toList ++ l.map UInt8.ofNat := by
  induction l generalizing r with
  | nil => simp
  | cons b l ih => simp only [List.map_cons, List.foldl_cons]; rw [ih]; simp [ByteArray.push]
/-- The text of a list of bytes. -/
def txt (l : List Nat) : ByteArray := (l.map Int.ofNat).foldl (fun r n => r.push (UInt8.ofNat n.toNat)) ByteArray.empty
theorem bs_txt (l : List Nat) (h : Crc.Bytes l) : bs (txt l) = l := by
  unfold bs txt
  rw [push_data, empty_list, List.nil_append, List.map_map]
  conv => rhs; rw [← List.map_id l]
  apply List.map_congr_left
  intro b hb
  have := h b hb
  simp [Nat.mod_eq_of_lt this]
theorem txt_bs (s : ByteArray) : txt (bs s) = s := by
  apply ByteArray.ext
  apply Array.toList_inj.1
  unfold txt
  rw [push_data, empty_list, List.nil_append]
  unfold bs
  rw [List.map_map]
  conv => rhs; rw [← List.map_id s.data.toList]
  apply List.map_congr_left
  intro u _
  simp
theorem txt_size (l : List Nat) : (txt l).size = l.length := by
  have : (txt l).data.toList.length = l.length := by unfold txt; rw [push_data, empty_list]; simp
  simpa using this
theorem text_of_row {W : World} {b n : Nat} {l : List Nat} (h : W.heap[b]? = some (.cells (rowV l) 5 (0, 0))) (hn : l.length = n) :
    (convert 51 9 (.slice (some ⟨b, 0, none⟩) n n)).run Tryd.prog W = .ok (.string (txt l)) W := by
  rw [run_convert_bytes_string W _ _ _ _ _ _ Tryd.underlying51 Tryd.underlying5 Tryd.underlying9]
  have hl : (loadCells ⟨b, 0, none⟩ n).run Tryd.prog W = .ok ((l.map Int.ofNat).map (Value.int .u8)).toArray W := by
    have := run_loadCells_list (P := Tryd.prog) W ⟨b, 0, none⟩ ((l.map Int.ofNat).map (Value.int .u8)) (fun j v hv => by
      have hadd : (⟨b, 0, none⟩ : Addr).add j = ⟨b, j, none⟩ := by unfold Addr.add; split <;> simp_all
      rw [hadd, cell_of_row W b j _ _ _ h]
      simpa [rowV] using hv)
    simpa [hn] using this
  exact run_bytesToString W ⟨b, 0, none⟩ n n (l.map Int.ofNat) hl
end Go.Proofs.YtpiajecfhppfeaaDoor
