/-
  Plain mathematics: a channel is shut; those that wait go on, in their order. No program.
-/
import Derived.Test.YtpehmghnfbkaaaaDoorPipeM3
namespace Go.Proofs.YtpehmghnfbkaaaaDoor
namespace Pp

theorem wakeAll_snoc (r : List (Int × Nat)) (w : Int × Nat) : ∀ s : St, wakeAll s (r ++ [w]) = if ((wakeAll s r).1.asks w.1).isSome then (wake (wakeAll s r).1 w.1, (wakeAll s r).2 ++ [⟨w.1, w.2, 0⟩]) else wakeAll s r := by
  induction r with
  | nil =>
    intro s
    rw [List.nil_append, wakeAll, wakeAll, wakeAll]
    split <;> rfl
  | cons x r ih =>
    intro s
    rw [List.cons_append, wakeAll, wakeAll]
    split
    · next h =>
      rw [ih]
      simp only
      split <;> rfl
    · exact ih s
/-- One channel; tasks 0 to k - 1 wait at it to receive. -/
def shC (size : Nat) (nums : List Int) (shut : Bool) (k : Nat) : Ch := ⟨size, nums, shut, [], (List.range k).map fun (i : Nat) => ((i : Int), 0)⟩
def shS (size : Nat) (nums : List Int) (shut : Bool) (k : Nat) : St := ⟨[shC size nums shut k], fun x => if 0 ≤ x ∧ x < k then some [⟨10, 1, 0⟩] else none⟩
theorem shS_new (size : Nat) : (⟨[newCh size], fun _ => none⟩ : St) = shS size [] false 0 := by
  unfold shS
  congr 1
  funext x
  rw [if_neg (by omega)]
theorem shS_asks {size : Nat} {nums : List Int} {shut : Bool} {k : Nat} {x : Int} (h : (k : Int) ≤ x) : (shS size nums shut k).asks x = none := by
  unfold shS
  simp only
  rw [if_neg (by omega)]
theorem chan_one (c : Ch) : chan [c] 1 = some c := rfl
theorem may_one : may 1 1 = true := by decide
theorem talk_send {size : Nat} {nums : List Int} (h : nums.length < size) (t : Int) (ht : 0 ≤ t) (v : Int) : talk (shS size nums false 0) t [⟨3, 1, v⟩] 0 = ⟨shS size (nums ++ [v]) false 0, 0, 0, [], false, 0⟩ := by
  have ha := shS_asks (size := size) (nums := nums) (shut := false) (k := 0) (x := t) (by omega)
  have ho : other (shS size nums false 0).chs.length [⟨3, 1, v⟩] 0 (-1) = (-1, 0) := by simp [other, shS, may]
  have hf : frees (shS size nums false 0).chs [⟨3, 1, v⟩] 0 = [0] := by simp [frees, isFree, shS, chan, Ch.free, shC, h]
  unfold talk
  rw [ha, ho, hf]
  have hd : doT (shS size nums false 0) ⟨3, 1, v⟩ = ⟨shS size (nums ++ [v]) false 0, 0, [], 0⟩ := by
    have hne : ¬ nums.length = size := by omega
    simp [doT, shS, send, shC, hne, setNums]
  simp [drawn, hd]
theorem talk_wait (size k : Nat) : talk (shS size [] false k) k [⟨10, 1, 0⟩] 0 = ⟨shS size [] false (k + 1), 0, 0, [], true, 0⟩ := by
  have ha := shS_asks (size := size) (nums := []) (shut := false) (k := k) (x := k) (by omega)
  have ho : other (shS size [] false k).chs.length [⟨10, 1, 0⟩] 0 (-1) = (-1, 0) := by simp [other, shS, may]
  have hf : frees (shS size [] false k).chs [⟨10, 1, 0⟩] 0 = [] := by simp [frees, isFree, shS, chan, Ch.free, shC]
  unfold talk
  rw [ha, ho, hf]
  have hd : wait (shS size [] false k) k [⟨10, 1, 0⟩] = shS size [] false (k + 1) := by
    unfold wait
    have h1 : lay (k : Int) (shS size [] false k).chs [⟨10, 1, 0⟩] 0 = (shS size [] false (k + 1)).chs := by
      simp [lay, layAt, shS, Ch.lay, shC, List.range_succ]
    rw [h1]
    unfold shS
    simp only
    congr 1
    funext x
    by_cases e : x = (k : Int)
    · rw [if_pos e, if_pos (by omega)]
    · rw [if_neg e]
      by_cases e2 : 0 ≤ x ∧ x < (k : Int)
      · rw [if_pos e2, if_pos (by omega)]
      · rw [if_neg e2, if_neg (by omega)]
  simp [hd]
theorem wakeAll_sh (c : Ch) (hc : c.recvs = []) (k : Nat) : ∀ j : Nat, j ≤ k → wakeAll ⟨[c], fun x => if 0 ≤ x ∧ x < (k : Int) then some [⟨10, 1, 0⟩] else none⟩ ((List.range j).map fun (i : Nat) => ((i : Int), 0)) =
    (⟨[c], fun x => if (j : Int) ≤ x ∧ x < (k : Int) then some [⟨10, 1, 0⟩] else none⟩, (List.range j).map fun (i : Nat) => ⟨(i : Int), 0, 0⟩) := by
  intro j
  induction j with
  | zero => intro _; rfl
  | succ j ih =>
    intro hj
    rw [List.range_succ, List.map_append, List.map_append, List.map_singleton, List.map_singleton, wakeAll_snoc, ih (by omega)]
    have hw : (⟨[c], fun x => if (j : Int) ≤ x ∧ x < (k : Int) then some [⟨10, 1, 0⟩] else none⟩ : St).asks (j : Int) = some [⟨10, 1, 0⟩] := by simp only; rw [if_pos (by omega)]
    rw [if_pos (by simp only; rw [if_pos (by omega)]; rfl), wake_some hw]
    have h1 : strike (j : Int) [⟨10, 1, 0⟩] [c] = [c] := by
      obtain ⟨a1, a2, a3, a4, a5⟩ := c
      simp only at hc
      subst hc
      simp [strike, strikeAt, Ch.strike, off]
    simp only [h1]
    congr 1
    congr 1
    funext x
    by_cases e : x = (j : Int)
    · rw [if_pos e, if_neg (by omega)]
    · rw [if_neg e]
      by_cases e2 : (j : Int) ≤ x ∧ x < (k : Int)
      · rw [if_pos e2, if_pos (by omega)]
      · rw [if_neg e2, if_neg (by omega)]
theorem close_sh (size : Nat) (nums : List Int) (k : Nat) : close (shS size nums false k) 1 = ⟨shS size nums true 0, 0, (List.range k).map fun (i : Nat) => ⟨(i : Int), 0, 0⟩, 0⟩ := by
  unfold close
  have hm : may (shS size nums false k).chs.length 1 = true := may_one
  rw [if_neg (by rw [hm]; decide)]
  have hch : chan (shS size nums false k).chs 1 = some (shC size nums false k) := rfl
  rw [hch]
  simp only
  rw [if_neg (by simp [shC]), if_neg (by simp [shC])]
  have hmod : (shS size nums false k).chs.modify ((1 : Int) - 1).toNat (fun c => { c with shut := true, recvs := [] }) = [⟨size, nums, true, [], []⟩] := by simp [shS, shC]
  rw [hmod]
  have := wakeAll_sh ⟨size, nums, true, [], []⟩ rfl k k (Nat.le_refl _)
  have hr : (shC size nums false k).recvs = (List.range k).map fun (i : Nat) => ((i : Int), 0) := rfl
  have hs : (shS size nums false k).asks = fun x => if 0 ≤ x ∧ x < (k : Int) then some [⟨10, 1, 0⟩] else none := rfl
  rw [hr, hs, this]
  congr 1
  unfold shS shC
  simp only
  congr 1
  funext x
  rw [if_neg (by omega), if_neg (by omega)]
theorem talk_take {size : Nat} {v : Int} {r : List Int} (t : Int) (ht : 0 ≤ t) : talk (shS size (v :: r) true 0) t [⟨10, 1, 0⟩] 0 = ⟨shS size r true 0, 0, v, [], false, 0⟩ := by
  have ha := shS_asks (size := size) (nums := v :: r) (shut := true) (k := 0) (x := t) (by omega)
  have ho : other (shS size (v :: r) true 0).chs.length [⟨10, 1, 0⟩] 0 (-1) = (-1, 0) := by simp [other, shS, may]
  have hf : frees (shS size (v :: r) true 0).chs [⟨10, 1, 0⟩] 0 = [0] := by simp [frees, isFree, shS, chan, Ch.free, shC]
  unfold talk
  rw [ha, ho, hf]
  have hd : doT (shS size (v :: r) true 0) ⟨10, 1, 0⟩ = ⟨shS size r true 0, v, [], 0⟩ := by simp [doT, shS, recv, shC, setNums]
  simp [drawn, hd]
theorem talk_none0 {size : Nat} (t : Int) (ht : 0 ≤ t) : talk (shS size [] true 0) t [⟨10, 1, 0⟩] 0 = ⟨shS size [] true 0, 0, 0, [], false, 0⟩ := by
  have ha := shS_asks (size := size) (nums := []) (shut := true) (k := 0) (x := t) (by omega)
  have ho : other (shS size [] true 0).chs.length [⟨10, 1, 0⟩] 0 (-1) = (-1, 0) := by simp [other, shS, may]
  have hf : frees (shS size [] true 0).chs [⟨10, 1, 0⟩] 0 = [0] := by simp [frees, isFree, shS, chan, Ch.free, shC]
  unfold talk
  rw [ha, ho, hf]
  have hd : doT (shS size [] true 0) ⟨10, 1, 0⟩ = ⟨shS size [] true 0, 0, [], 0⟩ := by simp [doT, shS, recv, shC]
  simp [drawn, hd]
theorem talk_shut {size : Nat} {nums : List Int} (t : Int) (ht : 0 ≤ t) (v : Int) : talk (shS size nums true 0) t [⟨3, 1, v⟩] 0 = ⟨shS size nums true 0, 0, 0, [], false, 13⟩ := by
  have ha := shS_asks (size := size) (nums := nums) (shut := true) (k := 0) (x := t) (by omega)
  have ho : other (shS size nums true 0).chs.length [⟨3, 1, v⟩] 0 (-1) = (-1, 0) := by simp [other, shS, may]
  have hf : frees (shS size nums true 0).chs [⟨3, 1, v⟩] 0 = [0] := by simp [frees, isFree, shS, chan, Ch.free, shC]
  unfold talk
  rw [ha, ho, hf]
  have hd : doT (shS size nums true 0) ⟨3, 1, v⟩ = ⟨shS size nums true 0, 0, [], 13⟩ := by simp [doT, shS, send, shC]
  simp [drawn, hd]
theorem close_shut (size : Nat) (nums : List Int) : close (shS size nums true 0) 1 = ⟨shS size nums true 0, 0, [], 1⟩ := by
  unfold close
  have hm : may (shS size nums true 0).chs.length 1 = true := may_one
  rw [if_neg (by rw [hm]; decide)]
  have hch : chan (shS size nums true 0).chs 1 = some (shC size nums true 0) := rfl
  rw [hch]
  simp only
  rw [if_pos (by simp [shC])]
end Pp
end Go.Proofs.YtpehmghnfbkaaaaDoor
