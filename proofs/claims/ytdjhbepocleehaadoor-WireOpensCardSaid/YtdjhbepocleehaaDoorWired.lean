/-
  The fact that the laws of package wire ask first ('wired'); Seal and Open in the words of Good.
-/
import Derived.Test.YtdjhbepocleehaaDoorWireSeal
import Derived.Test.YtdjhbepocleehaaDoorWireOpen
namespace Go.Proofs.YtdjhbepocleehaaDoor
open Go.RowKit

theorem good_iff {ps : List WPart} (hs : Small ps) (ht : ∀ p ∈ ps, p.1 < 256) : Good ps ↔ (ps.length ≤ 40 ∧ ∀ i, i < ps.length → MayStand ps i) := by
  unfold Good
  rw [rises_pt]
  exact ⟨fun h => ⟨h.1, h.2.2.2.1⟩, fun h => ⟨h.1, hs, ht, h.2, fun _ x hx => by cases hx⟩⟩
theorem small_pb {ps : List WPart} (h : Small ps) (i : Nat) (hi : i < ps.length) : (pb ps i).size ≤ 60000 := by
  unfold pb
  rw [List.getD_eq_getElem?_getD, List.getElem?_eq_getElem hi]; exact h _ (List.getElem_mem hi)
theorem PartsAt.tags {w : World} {v : Value} {ps : List WPart} (h : PartsAt w v ps) : ∀ p ∈ ps, p.1 < 256 := by
  obtain ⟨_, _, _, _, _, _, _, _, h⟩ := h; exact h
/-- Seal, of parts that are short enough. -/
theorem seal_good (kind : Nat) (v : Value) (ps : List WPart) (w : World) (hk : kind < 256) (hv : PartsAt w v ps) (hs : Small ps) (htot : (partsL ps).length ≤ 900000) (hL : Leaves w) :
    Calls Tryd.prog 25 #[.int .u8 (kind : Int), v] w fun e w' => ∃ re t, e = .returned (.tuple #[.string t, errV re]) ∧
      ((Good ps ∧ re = 0 ∧ t = txt (wholeL kind ps)) ∨ (¬ Good ps ∧ (re = 4 ∨ re = 10))) ∧ Below w.heap.size w w' :=
  (seal_any kind v ps w hk hv (small_pb hs) htot hL).mono fun e w' ⟨re, t, h1, h2, h3⟩ => ⟨re, t, h1, by
    rw [good_iff hs hv.tags]
    rcases h2 with ⟨a, b, c⟩ | ⟨a, b, _⟩
    · exact Or.inl ⟨a, b, c⟩
    · exact Or.inr ⟨a, b⟩, h3⟩

def ps2 : List WPart := [(1, { data := #[120] }), (2, { data := #[] })]
theorem ps2_small : Small ps2 := by
  intro p hp
  simp only [ps2, List.mem_cons, List.not_mem_nil, or_false] at hp
  rcases hp with rfl | rfl <;> decide
theorem ps2_good : Good ps2 := ⟨by decide, ps2_small, (fun x hx => by cases hx), by decide, (fun x hx => by cases hx; decide), by decide, trivial⟩
theorem ps2_len : (partsL ps2).length ≤ 900000 := by
  have : (partsL ps2).length = 13 := by
    simp only [ps2, partsL, List.flatMap_cons, List.flatMap_nil, List.append_nil, List.length_append, sealed_length, partL_length]
    rw [show (ByteArray.size { data := #[120] }) = 1 from rfl, show (ByteArray.size { data := #[] }) = 0 from rfl, Vy.enc_small (by decide), Vy.enc_small (by decide)]; rfl
  omega
theorem ps2_at (w : World) : PartsAt (w.alloc (.cells #[.int .u8 1, .string { data := #[120] }, .int .u8 2, .string { data := #[] }] 65)) (.slice (some ⟨w.heap.size, 0, none⟩) 2 2) ps2 := by
  refine ⟨_, 2, 2, rfl, rfl, Nat.le_refl _, by decide, fun _ => ⟨w.heap.size, 0, rfl, by simp, fun i hi => ?_⟩, fun p hp => ?_⟩
  · rw [cell_of_row _ _ _ _ _ _ (heap_alloc_new _ _), cell_of_row _ _ _ _ _ _ (heap_alloc_new _ _)]
    match i, hi with
    | 0, _ => exact ⟨rfl, rfl⟩
    | 1, _ => exact ⟨rfl, rfl⟩
  · simp only [ps2, List.mem_cons, List.not_mem_nil, or_false] at hp
    rcases hp with rfl | rfl <;> decide
theorem whole_size {kind : Nat} {ps : List WPart} (hk : kind < 256) (h : Good ps) : (txt (wholeL kind ps)).size = 8 + (Vy.enc ps.length).length + (partsL ps).length ∧ bs (txt (wholeL kind ps)) = wholeL kind ps := by
  refine ⟨?_, bs_txt _ (wholeL_bytes hk h.2.2.tag)⟩
  rw [txt_size, wholeL, sealed_length, headL_split]; simp; omega

set_option maxRecDepth 100000 in
set_option maxHeartbeats 1600000 in
theorem wired_any (w : World) (hL : Leaves w) : Calls Tryd.prog 30 #[] w fun e w' => e = .returned (.bool true) ∧ Below w.heap.size w w' := by
  have HL := Lib.hid hL
  have HPA := Lib.hid (ps2_at w)
  clear hL
  have HL0 := Lib.hid (Leaves.next HL.out (below_alloc2 w (.cells #[.int .u8 1, .string { data := #[120] }, .int .u8 2, .string { data := #[] }] 65)))
  have HB0 := Lib.hid (below_alloc2 w (.cells #[.int .u8 1, .string { data := #[120] }, .int .u8 2, .string { data := #[] }] 65))
  go_enter Tryd.func30, Tryd.ntmps30
  go_wp2_with fail
  refine (seal_good 107 _ ps2 _ (by decide) HPA.out ps2_small ps2_len HL0.out).mono ?_
  rintro e w1 ⟨re, t, rfl, hre, hb1⟩
  rcases hre with ⟨_, rfl, rfl⟩ | ⟨h, _⟩
  · obtain ⟨hws, hwb⟩ := whole_size (kind := 107) (by decide) ps2_good
    have HWB := Lib.hid hwb
    have h1 := Vy.enc_len10 ps2.length (by decide)
    have h2 := ps2_len
    have hb01 : Below w.heap.size w w1 := HB0.out.trans (hb1.mono HB0.out.size)
    have HL1 := Lib.hid (Leaves.next HL.out hb01)
    have h13 : (partsL ps2).length ≤ 20 := by
      simp only [ps2, partsL, List.flatMap_cons, List.flatMap_nil, List.append_nil, List.length_append, sealed_length, partL_length]
      rw [show (ByteArray.size { data := #[120] }) = 1 from rfl, show (ByteArray.size { data := #[] }) = 0 from rfl, Vy.enc_small (by decide), Vy.enc_small (by decide)]; decide
    have hsz : (txt (wholeL 107 ps2)).size ≤ 60000 := by omega
    clear hws hwb h1 h2 h13
    generalize txt (wholeL 107 ps2) = T at *
    rw [errV_0]
    go_wp2_with fail
    obtain ⟨k, qs, re, hO⟩ := OP.exists T
    obtain ⟨rfl, rfl, rfl⟩ := OP.full HWB.out ps2_good hO
    refine (open_any T 107 ps2 0 _ hsz hO HL1.out).mono ?_
    rintro e w2 ⟨v, rfl, hpa, hb2⟩
    obtain ⟨ao, n, cap, rfl, hn, _, _, hx, _⟩ := hpa
    obtain rfl : n = 2 := hn
    obtain ⟨b, o, rfl, _, hc⟩ := hx (by decide)
    obtain ⟨hc0, hc1⟩ := hc 0 (by decide)
    obtain ⟨hc2, hc3⟩ := hc 1 (by decide)
    have hd0 : w2.cell? ⟨b, o, none⟩ = some (.int .u8 1) := hc0
    have hd1 : w2.cell? ⟨b, o + 1, none⟩ = some (.string { data := #[120] }) := hc1
    have hd2 : w2.cell? ⟨b, o + 2, none⟩ = some (.int .u8 2) := hc2
    have hd3 : w2.cell? ⟨b, o + 2 + 1, none⟩ = some (.string { data := #[] }) := hc3
    rw [errV_0]
    clear hc hc0 hc1 hc2 hc3 hx
    go_wp2_with fail
    go_ret
    exact ⟨rfl, hb01.trans (hb2.mono hb01.size)⟩
  · exact absurd ps2_good h
end Go.Proofs.YtdjhbepocleehaaDoor
