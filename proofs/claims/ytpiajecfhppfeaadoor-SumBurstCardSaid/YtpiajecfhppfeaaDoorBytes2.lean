/-
  Rows of bytes, cell by cell: the row that a conversion of a text lays, one store, and the text that is made of it.
-/
import Derived.Test.YtpiajecfhppfeaaDoorBytes
import Derived.Lib.ConvBytes
namespace Go.Proofs.YtpiajecfhppfeaaDoor
open Go.RowKit

/-- The bytes l stand at a block's head, and may be written. -/
def RowAt (w : World) (b : Nat) (l : List Nat) : Prop := ∀ j : Nat, j < l.length → w.cell? ⟨b, j, none⟩ = some (.int .u8 ((l.getD j 0 : Nat) : Int)) ∧ w.frozen? ⟨b, j, none⟩ = false
theorem RowAt.drew {w : World} {b : Nat} {l : List Nat} (h : RowAt w b l) : RowAt w.drew b l := h
theorem RowAt.set {w : World} {b : Nat} {l : List Nat} (h : RowAt w b l) (k v : Nat) : RowAt (w.setCell ⟨b, k, none⟩ (.int .u8 (v : Int))) b (l.set k v) := fun j hj => by
  rw [List.length_set] at hj
  obtain ⟨h1, h2⟩ := h j hj
  refine ⟨?_, by simpa using h2⟩
  by_cases e : k = j
  · subst e
    rw [World.cell?_setCell_same _ _ _ h1]
    simp [hj]
  · rw [World.cell?_setCell_other _ _ _ _ (by intro g; cases g; exact e rfl), h1]
    simp [List.getD_eq_getElem?_getD, List.getElem?_set_ne e]
theorem RowAt.text {w : World} {b n c : Nat} {l : List Nat} (h : RowAt w b l) (hn : l.length = n) :
    (convert 51 9 (.slice (some ⟨b, 0, none⟩) n c)).run Tryd.prog w = .ok (.string (txt l)) w := by
  rw [run_convert_bytes_string w _ _ _ _ _ _ Tryd.underlying51 Tryd.underlying5 Tryd.underlying9]
  have hl : (loadCells ⟨b, 0, none⟩ n).run Tryd.prog w = .ok ((l.map Int.ofNat).map (Value.int .u8)).toArray w := by
    have := run_loadCells_list (P := Tryd.prog) w ⟨b, 0, none⟩ ((l.map Int.ofNat).map (Value.int .u8)) (fun j v hv => by
      have hadd : (⟨b, 0, none⟩ : Addr).add j = ⟨b, j, none⟩ := by unfold Addr.add; split <;> simp_all
      have hj : j < l.length := by
        have := (List.getElem?_eq_some_iff.1 hv).1
        simpa using this
      rw [hadd, (h j hj).1]
      simpa [hj] using hv)
    simpa [hn] using this
  exact run_bytesToString w ⟨b, 0, none⟩ n c (l.map Int.ofNat) hl

theorem RowAt.ofText (w : World) (s : ByteArray) : RowAt (Lib.bytesWorld w 5 s) w.heap.size (bs s) := fun j hj => by
  rw [bs_length] at hj
  refine ⟨?_, ?_⟩
  · rw [Lib.bytesWorld_cell w _ s j hj]
    have hd : j < s.data.size := hj
    unfold bs
    rw [List.getD_eq_getElem?_getD, List.getD_eq_getElem?_getD, List.getElem?_map, Array.getElem?_toList, Array.getElem?_eq_getElem hd]
    rfl
  · have hn := Lib.bytesWorld_at_new w 5 s
    have hsz : s.size ≤ (Lib.bytesCells w 5 s).size := by simp [Lib.bytesCells]
    simp [World.frozen?, hn]
    omega
theorem below_ofText (w : World) (s : ByteArray) : Below w.heap.size w (Lib.bytesWorld w 5 s) :=
  ⟨rfl, rfl, rfl, by rw [Lib.bytesWorld_size]; omega, fun k hk => Lib.bytesWorld_at_old w _ s k hk⟩
end Go.Proofs.YtpiajecfhppfeaaDoor
