/-
  All of a ring: what the function that All hands back tells, whatever the loop's body does with the ring.
-/
import Derived.Test.YtpehmghnfbkaaaaRingList
import Derived.RangeFuncBox
import Derived.RangeFuncLeaves
import Derived.RangeFuncWrites
import Derived.Shelf.Abstract
import Derived.OwnWalkIn
import Derived.TacticsInMore
import Derived.LoopNIn
import Derived.LoopIn
namespace Go.Proofs.Ytpehmghnfbkaaaa
open Go.RowKit Go.Shelf

attribute [local go_sem] Oper.semAt_some

/-- The first k places, each with what lies there. -/
def uptoP (zs : List Int) (k : Nat) : List (Nat × Int) := (List.range k).map fun j => (j, zs[j]?.getD 0)
theorem uptoP_succ (zs : List Int) (k : Nat) : uptoP zs (k + 1) = uptoP zs k ++ [(k, zs[k]?.getD 0)] := by simp [uptoP, List.range_succ]
theorem uptoP_length (zs : List Int) (k : Nat) : (uptoP zs k).length = k := by simp [uptoP]
/-- What a loop over All must leave as it is: what was copied, and where that is noted. -/
abbrev KpA (B Bs : Nat) : World → World → Prop := Keeps (fun k => k ≠ B ∧ k ≠ Bs)
theorem kpA_t {B Bs : Nat} {a b c : World} (h : KpA B Bs a b) (k : KpA B Bs b c) : KpA B Bs a c := h.trans k
theorem kpA_b {B Bs : Nat} {w : World} (hB : B < w.heap.size) (hBs : Bs < w.heap.size) (W : World) (l : Nat) (o o' : Obj) (hl : w.heap.size ≤ l) (_ : W.heap[l]? = some o) (_ : o.isCells = false) (_ : o.isWalk = false) : KpA B Bs W (W.putObj l o') :=
  Keeps.of_grownBy (grownBy_putObj' W l o') fun k _ e => by cases e; exact ⟨by omega, by omega⟩

set_option maxRecDepth 100000 in
set_option maxHeartbeats 2000000 in
theorem all1_in (F : Fence) (n : Nat) (h49 : F.fn 45) (hro : F.round = none) (_hn : 1 ≤ n) (l Bs B len : Nat) (zs : List Int) (hlen : len ≤ 64) (J Jx : List (Nat × Int) → World → Prop)
    (hY : ∀ pre (x : Nat × Int) W, J pre W → pre.length < len → YieldAt F (n - 1) Try.prog l #[.int .i64 (x.1 : Int), .int .i64 x.2] W fun e W' =>
      (e = .returned (.bool true) ∧ J (pre ++ [x]) W' ∧ KpA B Bs W W') ∨ (e = .returned (.bool false) ∧ Jx (pre ++ [x]) W'))
    (W : World) (hBs : W.cell? ⟨Bs, 0, none⟩ = some (.slice (some ⟨B, 0, none⟩) len len)) (hc : ∀ j, j < len → W.cell? ⟨B, j, none⟩ = some (.int .i64 (zs[j]?.getD 0))) (h0 : J [] W) :
    CallsIn F n Try.prog 45 #[.func (.yield l) #[] #[], .pointer (some ⟨Bs, 0, none⟩)] W fun e W' => (∃ v, e = .returned v) ∧
      ((∃ ys, ys = uptoP zs len ∧ J ys W') ∨ (∃ pre, (∃ k, k ≤ len ∧ pre = uptoP zs k) ∧ Jx pre W')) := by
  have HC : Hid (∀ j, j < len → W.cell? ⟨B, j, none⟩ = some (.int .i64 (zs[j]?.getD 0)) ∧ B < W.heap.size) := Lib.hid fun j hj => ⟨hc j hj, block_lt_of_cell (hc j hj)⟩
  clear hc
  refine callsIn_of_wp Try.func45 rfl h49 ?_ hro
  simp only [Try.ntmps45, List.size_toArray, List.length_cons, List.length_nil, Nat.reduceAdd, Nat.reduceSub, Array.replicate_succ, Array.replicate_zero, List.push_toArray, List.append_toArray, List.nil_append, List.cons_append]
  gi_wp2
  gi_loopw [7] (fun i wr => ∃ k : Nat, k ≤ len ∧ i = .int .i64 k ∧ J (uptoP zs k) wr ∧ KpA B Bs W wr)
    (fun i _ => len - (intOf i).toNat)
  case atStart => exact ⟨0, Nat.zero_le _, rfl, h0, Keeps.refl _ _⟩
  case round =>
    obtain ⟨k, hk, rfl, hJs, hnx⟩ := hrel
    by_cases hlt : k < len
    · obtain ⟨fn, tmps, assign, body, hy, hR⟩ := hY _ (k, zs[k]?.getD 0) wr hJs (by rw [uptoP_length]; exact hlt)
      have hcx : wr.cell? ⟨B, k, none⟩ = some (.int .i64 (zs[k]?.getD 0)) := hnx.cell_of (HC.out k hlt).1 (fun h => h.1 rfl)
      have hki : (0 : Int) ≤ (k : Int) ∧ (k : Int) < (len : Int) := by omega
      dsimp only at hy
      gi_wp2
      refine hR.mono ?_
      rintro e W3 (⟨rfl, hJ3, hk3⟩ | ⟨rfl, hJx3⟩)
      · gi_wp2
        go_roundw
        case rel => exact ⟨k + 1, by omega, by simp, by rw [uptoP_succ]; exact hJ3, hnx.trans hk3⟩
        case measure => simp [intOf]; omega
      · gi_wp2
        refine bodyPost_ret (results_none rfl _ _ _) rfl ?_
        exact ⟨⟨_, rfl⟩, .inr ⟨_, ⟨k + 1, by omega, (uptoP_succ _ _).symm⟩, hJx3⟩⟩
    · obtain rfl : k = len := by omega
      gi_wp2
      go_end0
      exact ⟨⟨_, rfl⟩, .inl ⟨_, rfl, hJs⟩⟩

/-- What All hands back: all that there is, in order; or the first few. -/
theorem all_stops (F : Fence) (n : Nat) (h49 : F.fn 45) (hro : F.round = none) (hn : 1 ≤ n) (Bs B : Nat) (zs : List Int) (hlen : zs.length ≤ 64) (w : World)
    (hc : w.cell? ⟨Bs, 0, none⟩ = some (.slice (some ⟨B, 0, none⟩) zs.length zs.length)) (hI : ∀ j, j < zs.length → w.cell? ⟨B, j, none⟩ = some (.int .i64 (zs[j]?.getD 0))) :
    SeqStopsK F n Try.prog 45 #[.pointer (some ⟨Bs, 0, none⟩)] (fun x : Nat × Int => #[Value.int .i64 (x.1 : Int), Value.int .i64 x.2]) (KpA B Bs) (fun ys => ys = uptoP zs zs.length)
      (fun pre => ∃ k, k ≤ zs.length ∧ pre = uptoP zs k) zs.length w := fun l J Jx W hW _ _ hY h0 =>
  all1_in F n h49 hro hn l Bs B zs.length zs hlen J Jx hY W ((hW.cell (p := ⟨Bs, 0, none⟩) (block_lt_of_cell hc)).trans hc) (fun j hj => (hW.cell (p := ⟨B, j, none⟩) (block_lt_of_cell (hI j hj))).trans (hI j hj)) h0

/-- What All has laid. -/
structure AllI (w w' : World) (l : List Int) (Bs : Nat) : Prop where
  keep : Keeps (fun _ => False) w w'
  lo : w.heap.size < Bs
  hi : Bs < w'.heap.size
  box : w'.cell? ⟨Bs, 0, none⟩ = some (.slice (some ⟨w.heap.size, 0, none⟩) l.length l.length)
  cell : ∀ j, j < l.length → w'.cell? ⟨w.heap.size, j, none⟩ = some (.int .i64 (l[j]?.getD 0))

set_option maxHeartbeats 1000000 in
theorem allI_any {rb sb n : Nat} {l : List Int} (w : World) (h : RingL eI w rb sb n l) : Calls Try.prog 38 #[.pointer (some ⟨rb, 0, none⟩)] w fun e w' =>
    ∃ Bs, e = .returned (.func (.func 45) #[] #[.pointer (some ⟨Bs, 0, none⟩)]) ∧ AllI w w' l Bs := by
  go_enter Try.func38, Try.ntmps38
  go_wp2_with fail
  refine (listI_any w h).mono ?_
  rintro e w1 ⟨rfl, hF⟩
  go_wp2_with fail
  go_ret
  have hlt := hF.lt
  refine ⟨w1.heap.size, rfl, hF.keep.alloc _, hlt, by simp, ?_, fun j hj => ?_⟩
  · rw [World.cell?_alloc_at _ _ _ _ rfl]; rfl
  · obtain ⟨v, hc, hv⟩ := hF.cell j hj
    rw [World.cell?_alloc_past _ _ _ (block_lt_of_cell hc), hc, hv hj, List.getD_eq_getElem?_getD]
end Go.Proofs.Ytpehmghnfbkaaaa
