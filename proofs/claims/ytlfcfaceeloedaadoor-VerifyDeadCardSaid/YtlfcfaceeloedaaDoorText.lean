/-
  Texts and rows of bytes, in the walk's world: a text's bytes as numbers, the text of bytes, make, stores, []byte(s), string(b). Of no chapter.
-/
import Derived.Test.YtlfcfaceeloedaaDoorRows
import Derived.Test.YtlfcfaceeloedaaDoorCrc
import Derived.WalkKit
import Derived.WalkSpells
import Derived.WalkLawsBesides
import Derived.Lib.Hide
import Derived.Laws.BytesString
import Derived.Laws.Rows
import Derived.Lib.ConvBytes
namespace Go.Proofs.YtlfcfaceeloedaaDoor
open Go.RowKit

/-- A text's bytes, as numbers. -/
def bs (s : ByteArray) : List Nat := s.data.toList.map UInt8.toNat
theorem bs_length (s : ByteArray) : (bs s).length = s.size := by simp [bs]
theorem bs_bytes (s : ByteArray) : Crc.Bytes (bs s) := by
  intro b hb
  obtain ⟨u, _, rfl⟩ := List.mem_map.1 hb
  exact u.toNat_lt
theorem bs_take_succ (s : ByteArray) (k : Nat) (h : k < s.size) : (bs s).take (k + 1) = (bs s).take k ++ [s[k].toNat] := by
  rw [List.take_succ_eq_append_getElem (by rw [bs_length]; exact h)]
  congr 2
  simp [bs]; rfl

theorem bs_append (a b : ByteArray) : bs (a ++ b) = bs a ++ bs b := by simp [bs]

theorem bs_getD (s : ByteArray) (k : Nat) (h : k < s.size) : (bs s).getD k 0 = s[k].toNat := by
  have hd : k < s.data.size := h
  unfold bs
  rw [List.getD_eq_getElem?_getD, List.getElem?_map, Array.getElem?_toList, Array.getElem?_eq_getElem hd]
  rfl
theorem bs_extract (s : ByteArray) (a b : Nat) : bs (s.extract a b) = ((bs s).take b).drop a := by
  unfold bs
  rw [ByteArray.data_extract, Array.toList_extract, List.extract_eq_take_drop, List.drop_take, List.map_take, List.map_drop]

def rowV (l : List Nat) : Array Value := (l.map fun b : Nat => Value.int .u8 (b : Int)).toArray
theorem rowV_size (l : List Nat) : (rowV l).size = l.length := by simp [rowV]
theorem rowV_get (l : List Nat) (i : Nat) (h : i < l.length) : (rowV l)[i]? = some (.int .u8 ((l.getD i 0 : Nat) : Int)) := by
  simp [rowV, h]
theorem rowV_set (l : List Nat) (i b : Nat) : (rowV l).setIfInBounds i (.int .u8 (b : Int)) = rowV (l.set i b) := by
  simp [rowV, List.map_set]
def zerosL (n : Nat) : List Nat := List.replicate n 0
theorem madeCells_bytes (n : Nat) : madeCells (Value.cells (.int .u8 0)) (n * 1) = rowV (zerosL n) := by
  apply Array.ext
  · rw [size_madeCells, rowV_size]; simp [zerosL]
  · intro i h1 h2
    simp [madeCells, Value.cells, rowV, zerosL, Nat.mod_one]

theorem info_u8 : (Tryd.prog.info? 5).map (fun i => (i.zero, i.size, i.bytes)) = some (some (.int .u8 0), 1, 1) := by kernel_rfl
theorem make_bytes (n : Nat) (h : n ≤ 140737488351232) (W : World) :
    (Instr.makeSlice 63 (.int .i64 n) (.int .i64 n)).run Tryd.prog W = .ok (.slice (some ⟨W.heap.size, 0, none⟩) n n) (W.alloc (.cells (rowV (zerosL n)) 5)) := by
  obtain ⟨i0, hi, hz0, hz1, hz2⟩ := info_parts info_u8
  have := run_make (P := Tryd.prog) W 63 5 i0 (.int .u8 0) Tryd.underlying63 hi hz0 .i64 .i64 n n (by omega) (by omega) (by rw [hz2]; omega) (by omega)
  rw [this]
  simp only [Int.toNat_natCast, hz1, madeCells_bytes]

theorem empty_list : ByteArray.empty.data.toList = [] := rfl
theorem push_data (l : List Nat) (r : ByteArray) : ((l.map Int.ofNat).foldl (fun r n => r.push (UInt8.ofNat n.toNat)) r).data.toList = r.data.toList ++ l.map UInt8.ofNat := by
  induction l generalizing r with
  | nil => simp
  | cons b l ih => simp only [List.map_cons, List.foldl_cons]; rw [ih]; simp [ByteArray.push]
/-- The text of a list of bytes. -/
def txt (l : List Nat) : ByteArray := (l.map Int.ofNat).foldl (fun r n => r.push (UInt8.ofNat n.toNat)) ByteArray.empty
theorem bs_txt (l : List Nat) (h : Crc.Bytes l) : bs (txt l) = l := by
  unfold bs txt
  rw [push_data, empty_list, List.nil_append, List.map_map]
  conv => rhs; rw [← List.map_id l]
  apply List.map_congr_left
  intro b hb
  have := h b hb
  simp [Nat.mod_eq_of_lt this]
theorem txt_bs (s : ByteArray) : txt (bs s) = s := by
  apply ByteArray.ext
  apply Array.toList_inj.1
  unfold txt
  rw [push_data, empty_list, List.nil_append]
  unfold bs
  rw [List.map_map]
  conv => rhs; rw [← List.map_id s.data.toList]
  apply List.map_congr_left
  intro u _
  simp
theorem bs_inj {a b : ByteArray} (h : bs a = bs b) : a = b := by rw [← txt_bs a, h, txt_bs]
theorem txt_size (l : List Nat) : (txt l).size = l.length := by
  have : (txt l).data.toList.length = l.length := by unfold txt; rw [push_data, empty_list]; simp
  simpa using this
theorem text_of_row {W : World} {b n : Nat} {l : List Nat} (h : W.heap[b]? = some (.cells (rowV l) 5 (0, 0))) (hn : l.length = n) :
    (convert 63 9 (.slice (some ⟨b, 0, none⟩) n n)).run Tryd.prog W = .ok (.string (txt l)) W := by
  rw [run_convert_bytes_string W _ _ _ _ _ _ Tryd.underlying63 Tryd.underlying5 Tryd.underlying9]
  have hl : (loadCells ⟨b, 0, none⟩ n).run Tryd.prog W = .ok ((l.map Int.ofNat).map (Value.int .u8)).toArray W := by
    have := run_loadCells_list (P := Tryd.prog) W ⟨b, 0, none⟩ ((l.map Int.ofNat).map (Value.int .u8)) (fun j v hv => by
      have hadd : (⟨b, 0, none⟩ : Addr).add j = ⟨b, j, none⟩ := by unfold Addr.add; split <;> simp_all
      rw [hadd, cell_of_row W b j _ _ _ h]
      simpa [rowV] using hv)
    simpa [hn] using this
  exact run_bytesToString W ⟨b, 0, none⟩ n n (l.map Int.ofNat) hl
/-- The bytes l stand at a block's head, and may be written. -/
def RowAt (w : World) (b : Nat) (l : List Nat) : Prop := ∀ j : Nat, j < l.length → w.cell? ⟨b, j, none⟩ = some (.int .u8 ((l.getD j 0 : Nat) : Int)) ∧ w.frozen? ⟨b, j, none⟩ = false
theorem RowAt.drew {w : World} {b : Nat} {l : List Nat} (h : RowAt w b l) : RowAt w.drew b l := h
theorem RowAt.set {w : World} {b : Nat} {l : List Nat} (h : RowAt w b l) (k v : Nat) : RowAt (w.setCell ⟨b, k, none⟩ (.int .u8 (v : Int))) b (l.set k v) := fun j hj => by
  rw [List.length_set] at hj
  obtain ⟨h1, h2⟩ := h j hj
  refine ⟨?_, by simpa using h2⟩
  by_cases e : k = j
  · subst e
    rw [World.cell?_setCell_same _ _ _ h1]
    simp [hj]
  · rw [World.cell?_setCell_other _ _ _ _ (by intro g; cases g; exact e rfl), h1]
    simp [List.getD_eq_getElem?_getD, List.getElem?_set_ne e]
theorem RowAt.text {w : World} {b n c : Nat} {l : List Nat} (h : RowAt w b l) (hn : l.length = n) :
    (convert 63 9 (.slice (some ⟨b, 0, none⟩) n c)).run Tryd.prog w = .ok (.string (txt l)) w := by
  rw [run_convert_bytes_string w _ _ _ _ _ _ Tryd.underlying63 Tryd.underlying5 Tryd.underlying9]
  have hl : (loadCells ⟨b, 0, none⟩ n).run Tryd.prog w = .ok ((l.map Int.ofNat).map (Value.int .u8)).toArray w := by
    have := run_loadCells_list (P := Tryd.prog) w ⟨b, 0, none⟩ ((l.map Int.ofNat).map (Value.int .u8)) (fun j v hv => by
      have hadd : (⟨b, 0, none⟩ : Addr).add j = ⟨b, j, none⟩ := by unfold Addr.add; split <;> simp_all
      have hj : j < l.length := by
        have := (List.getElem?_eq_some_iff.1 hv).1
        simpa using this
      rw [hadd, (h j hj).1]
      simpa [hj] using hv)
    simpa [hn] using this
  exact run_bytesToString w ⟨b, 0, none⟩ n c (l.map Int.ofNat) hl

theorem RowAt.ofText (w : World) (s : ByteArray) : RowAt (Lib.bytesWorld w 5 s) w.heap.size (bs s) := fun j hj => by
  rw [bs_length] at hj
  refine ⟨?_, ?_⟩
  · rw [Lib.bytesWorld_cell w _ s j hj]
    have hd : j < s.data.size := hj
    unfold bs
    rw [List.getD_eq_getElem?_getD, List.getD_eq_getElem?_getD, List.getElem?_map, Array.getElem?_toList, Array.getElem?_eq_getElem hd]
    rfl
  · have hn := Lib.bytesWorld_at_new w 5 s
    have hsz : s.size ≤ (Lib.bytesCells w 5 s).size := by simp [Lib.bytesCells]
    simp [World.frozen?, hn]
    omega
theorem below_ofText (w : World) (s : ByteArray) : Below w.heap.size w (Lib.bytesWorld w 5 s) :=
  ⟨rfl, rfl, rfl, by rw [Lib.bytesWorld_size]; omega, fun k hk => Lib.bytesWorld_at_old w _ s k hk⟩
end Go.Proofs.YtlfcfaceeloedaaDoor
