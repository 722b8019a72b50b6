/-
  The walks of package verify's looker: fail, has, takeAny, put, isCase.
-/
import Derived.Test.YtlfcfaceeloedaaDoorVerAt
import Derived.BigQuiet
import Derived.Deep.QuietTactic
namespace Go.Proofs.YtlfcfaceeloedaaDoor
open Go.RowKit Cd Ve
variable {E : LE} {W : World} {s : VS}

theorem LkAt.c {j : Nat} {v : Value} (h : LkAt E W s) (hj : (lkC E s)[j]? = some v) : W.cell? ⟨E.lb, j, none⟩ = some v := h.blk.at_ j v hj

set_option maxRecDepth 100000 in
set_option maxHeartbeats 1600000 in
theorem fail_any (e : Nat) (h : LkAt E W s) : Calls Tryd.prog 71 #[.pointer (some ⟨E.lb, 0, none⟩), .int .i64 e] W fun x W' => x = .returned (.tuple #[]) ∧ LkSays E W W' (s.fail e) := by
  have HH := Lib.hid h
  have c9 := h.c (j := 9) rfl
  have z9 := h.blk.free 9
  clear h
  go_enter Tryd.func71, Tryd.ntmps71
  by_cases h0 : s.wrong = 0
  · obtain ⟨g1, g2⟩ := HH.out.fail e h0
    have HG := Lib.hid (LkSays.mk g1 g2)
    rw [h0] at c9
    clear h0 g1 g2
    go_wp2_with fail
    go_end0
    exact ⟨rfl, HG.out⟩
  · have h0i : ¬ (s.wrong : Int) = 0 := by omega
    have HG : Hid (s.fail e = s) := Lib.hid (by unfold VS.fail; rw [if_neg h0])
    go_wp2_with fail
    go_end0
    exact ⟨rfl, by rw [HG.out]; exact ⟨HH.out, Keeps.refl _ _⟩⟩

/-- Says whether there is the n-th of so many. -/
def hasS (n many : Int) (s : VS) : VS := if many ≤ n then s.fail 2 else s
set_option maxRecDepth 100000 in
set_option maxHeartbeats 1600000 in
theorem has_any (n many : Int) (h : LkAt E W s) : Calls Tryd.prog 95 #[.pointer (some ⟨E.lb, 0, none⟩), .int .i64 n, .int .i64 many] W fun x W' => x = .returned (.bool (decide (n < many))) ∧ LkSays E W W' (hasS n many s) := by
  have HH := Lib.hid h
  have HF := Lib.hid (fail_any 2 h)
  clear h
  go_enter Tryd.func95, Tryd.ntmps95
  by_cases h0 : many ≤ n
  · have h1 : ¬ n < many := by omega
    have HE : Hid (hasS n many s = s.fail 2) := Lib.hid (if_pos h0)
    go_wp2_with fail
    refine HF.out.mono ?_
    rintro e w1 ⟨rfl, hs⟩
    have HS := Lib.hid hs
    clear hs
    go_wp2_with fail
    go_ret
    exact ⟨by simp, by rw [HE.out]; exact HS.out⟩
  · have h1 : n < many := by omega
    have HE : Hid (hasS n many s = s) := Lib.hid (if_neg h0)
    go_wp2_with fail
    go_ret
    exact ⟨by simp, by rw [HE.out]; exact ⟨HH.out, Keeps.refl _ _⟩⟩

set_option maxRecDepth 100000 in
set_option maxHeartbeats 1600000 in
theorem isCase_any (op : Int) (W : World) : Calls Tryd.prog 96 #[.int .i64 op] W fun x W' => x = .returned (.bool (caseB op)) ∧ W' = W := by
  go_enter Tryd.func96, Tryd.ntmps96
  unfold caseB
  by_cases h1 : op = 24
  · subst h1
    go_wp2_with fail
    go_ret
    exact ⟨rfl, rfl⟩
  · by_cases h2 : op = 25
    · subst h2
      go_wp2_with fail
      go_ret
      exact ⟨rfl, rfl⟩
    · by_cases h3 : op = 26
      · subst h3
        go_wp2_with fail
        go_ret
        exact ⟨rfl, rfl⟩
      · go_wp2_with fail
        go_ret
        exact ⟨by simp [h1, h2, h3], rfl⟩

set_option maxRecDepth 100000 in
set_option maxHeartbeats 1600000 in
theorem takeAny_any (h : LkAt E W s) : Calls Tryd.prog 98 #[.pointer (some ⟨E.lb, 0, none⟩)] W fun x W' => x = .returned (.int .i64 s.take?.1) ∧ LkSays E W W' s.take?.2 := by
  have HH := Lib.hid h
  have c8 := h.c (j := 8) rfl
  have z8 := h.blk.free 8
  have hl := h.ok.kok.1
  have hsz := tx_size s.waits
  cases hg : s.waits.getLast? with
  | none =>
    have hn : s.waits = [] := List.getLast?_eq_none_iff.1 hg
    have HF := Lib.hid (fail_any 8 h)
    have HE : Hid (s.take? = (0, s.fail 8)) := Lib.hid (by unfold VS.take?; rw [hg])
    rw [hn] at c8 hsz
    clear h hg hn hl
    have hz : (tx []).size = 0 := rfl
    go_enter Tryd.func98, Tryd.ntmps98
    go_wp2_with fail
    refine HF.out.mono ?_
    rintro e w1 ⟨rfl, hs⟩
    have HS := Lib.hid hs
    clear hs
    go_wp2_with fail
    go_ret
    exact ⟨by rw [HE.out]; rfl, by rw [HE.out]; exact HS.out⟩
  | some x =>
    obtain ⟨ys, hy⟩ := List.getLast?_eq_some_iff.1 hg
    have HE : Hid (s.take? = ((x.toNat : Int), { s with waits := ys })) := Lib.hid (by unfold VS.take?; rw [hg]; dsimp only; rw [hy, List.dropLast_concat])
    have hk : KOk ys := by
      have := kok_drop h.ok.kok
      rwa [hy, List.dropLast_concat] at this
    obtain ⟨g1, g2⟩ := h.waits ys hk
    have HG := Lib.hid (LkSays.mk g1 g2)
    rw [hy] at c8 hsz hl
    rw [List.length_append] at hsz hl
    simp only [List.length_cons, List.length_nil] at hsz hl
    obtain ⟨T, hT⟩ : ∃ T, T = tx (ys ++ [x]) := ⟨_, rfl⟩
    have hx : ∀ hlt : ys.length < T.size, T[ys.length] = x := fun hlt => by
      subst hT
      show (tx (ys ++ [x])).data[ys.length] = x
      simp [tx]
    have he : T.extract 0 ys.length = tx ys := by rw [hT, tx_take, List.take_left']; rfl
    rw [← hT] at c8 hsz
    clear h hg hy hk g1 g2 hT
    go_enter Tryd.func98, Tryd.ntmps98
    go_wp2_with fail
    have hwr : wrap64 (x.toNat : Int) = (x.toNat : Int) := by
      have := x.toNat_lt
      unfold wrap64
      omega
    rw [hwr]
    go_ret
    exact ⟨by rw [HE.out]; rfl, by rw [HE.out]; exact HG.out⟩

theorem LkSays.drew {W' : World} {t : VS} (h : LkSays E W W' t) : LkSays E W W'.drew t := ⟨h.lk.fresh ((Keeps.refl _ W').drew), h.kp.drew⟩
theorem LkSays.trans {W1 W2 : World} {t u : VS} (h : LkSays E W W1 t) (g : LkSays E W1 W2 u) : LkSays E W W2 u := ⟨g.lk, h.kp.trans g.kp⟩
theorem LkSays.new {W1 W2 : World} {u : VS} (h : Keeps (fun _ => False) W W1) (g : LkSays E W1 W2 u) : LkSays E W W2 u := ⟨g.lk, (h.mono fun _ _ e => e.elim).trans g.kp⟩
theorem text_one (W V : World) {k : Int} (h0 : 0 ≤ k) (h3 : k ≤ 3) (hV : V.heap = (W.alloc (.cells #[.int .u8 k] 5)).heap) : (convert 63 9 (.slice (some ⟨W.heap.size, 0, none⟩) 1 1)).run Tryd.prog V = .ok (.string (tx [UInt8.ofNat k.toNat])) V := by
  have e : (#[Value.int .u8 k] : Array Value) = rowV [k.toNat] := by
    simp [rowV]
    omega
  have := text_of_row (W := V) (b := W.heap.size) (n := 1) (l := [k.toNat]) (by rw [hV, heap_alloc_new, e]) rfl
  rw [this]
  rfl
theorem byte_of {k : Int} (h0 : 0 ≤ k) (h3 : k ≤ 3) : ((UInt8.ofNat k.toNat).toNat : Int) = k ∧ IntKind.u8.wrap k = k := by
  have : k = 0 ∨ k = 1 ∨ k = 2 ∨ k = 3 := by omega
  rcases this with rfl | rfl | rfl | rfl <;> exact ⟨by decide, by decide⟩
set_option maxRecDepth 100000 in
set_option maxHeartbeats 1600000 in
theorem put_any (k : Int) (h0 : 0 ≤ k) (h3 : k ≤ 3) (h : LkAt E W s) : Calls Tryd.prog 101 #[.pointer (some ⟨E.lb, 0, none⟩), .int .i64 k] W fun x W' => x = .returned (.tuple #[]) ∧ LkSays E W W' (s.put k) := by
  have HH := Lib.hid h
  have c8 := h.c (j := 8) rfl
  have z8 := h.blk.free 8
  have hsz := tx_size s.waits
  have hl := h.ok.kok.1
  by_cases hf : s.waits.length = 256
  · have HF := Lib.hid (fail_any 12 h)
    have HE : Hid (s.put k = s.fail 12) := Lib.hid (by unfold VS.put; rw [if_pos hf])
    rw [hf] at hsz
    clear h hf hl
    go_enter Tryd.func101, Tryd.ntmps101
    go_wp2_with fail
    refine HF.out.mono ?_
    rintro e w1 ⟨rfl, hs⟩
    have HS := Lib.hid hs
    clear hs
    go_wp2_with fail
    refine bodyPost_ret (results_none rfl _ _ _) rfl ?_
    exact ⟨rfl, by rw [HE.out]; exact HS.out⟩
  · have HE : Hid (s.put k = { s with waits := s.waits ++ [UInt8.ofNat k.toNat] }) := Lib.hid (by unfold VS.put; rw [if_neg hf])
    obtain ⟨hb1, hb2⟩ := byte_of h0 h3
    have hk : KOk (s.waits ++ [UInt8.ofNat k.toNat]) := by
      have g := (grow_put s h3).new h.ok.kok
      rw [HE.out] at g
      exact g.1
    have HK := Lib.hid hk
    have hszi : ¬ (((tx s.waits).size : Nat) : Int) = 256 := by rw [hsz]; omega
    obtain ⟨T, hT⟩ : ∃ T, T = tx s.waits := ⟨_, rfl⟩
    rw [← hT] at c8 hsz hszi
    have HT := Lib.hid hT
    clear h hk hf hT hb1 hsz
    go_enter Tryd.func101, Tryd.ntmps101
    obtain ⟨W2, hW2⟩ : ∃ W2, W2 = W.alloc (.cells #[.int .u8 k] 5) := ⟨_, rfl⟩
    have hlk := HH.out.fresh (W' := W2) (by rw [hW2]; exact (Keeps.refl _ W).alloc _)
    have c8' := hlk.c (j := 8) rfl
    have z8' := hlk.blk.free 8
    obtain ⟨g1, g2⟩ := hlk.waits _ HK.out
    have HG : Hid (LkSays E W (W2.setCell ⟨E.lb, 8, none⟩ (.string (tx (s.waits ++ [UInt8.ofNat k.toNat])))) { s with waits := s.waits ++ [UInt8.ofNat k.toNat] }) := Lib.hid ⟨g1, by
      refine Keeps.trans (S := LkS E) ?_ g2
      rw [hW2]
      exact (Keeps.refl _ W).alloc _⟩
    have hs1 := tx_size [UInt8.ofNat k.toNat]
    rw [← HT.out] at c8'
    have hT2 : T.size ≤ 256 := by rw [HT.out, tx_size]; exact hl
    have hap : T ++ tx [UInt8.ofNat k.toNat] = tx (s.waits ++ [UInt8.ofNat k.toNat]) := by rw [HT.out, tx_append]
    rw [hW2] at c8' z8' HG
    have hs2 : ¬ 9223372036854775807 < T.size + (tx [UInt8.ofNat k.toNat]).size := by rw [hs1]; simp only [List.length_cons, List.length_nil]; omega
    clear hlk hs1 g1 g2 hW2
    have HC0 := text_one W (W.alloc (.cells #[.int .u8 k] 5)).drew h0 h3 rfl
    go_wp2_with fail
    go_region
    go_wp2_with fail
    go_end0
    exact ⟨rfl, by rw [HE.out]; exact HG.out.drew⟩
end Go.Proofs.YtlfcfaceeloedaaDoor
