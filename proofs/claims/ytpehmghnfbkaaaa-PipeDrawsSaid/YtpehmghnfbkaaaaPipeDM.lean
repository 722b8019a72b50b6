/-
  Plain mathematics: several channels that have a number each, and who takes them. No program.
-/
import Derived.Test.YtpehmghnfbkaaaaPipeM3
namespace Go.Proofs.Ytpehmghnfbkaaaa
namespace Pp

def recvT (j : Nat) : Tk := ⟨10, (j : Int) + 1, 0⟩
def chD (full : Bool) (j : Nat) : Ch := ⟨1, if full then [10 + (j : Int)] else [], false, [], []⟩
/-- Of n channels, each with its number, those of T have none any more. -/
def drawS (n : Nat) (T : List Nat) : St := ⟨(List.range n).map fun j => chD (decide (j ∉ T)) j, fun _ => none⟩
theorem drawS_len (n : Nat) (T : List Nat) : (drawS n T).chs.length = n := by simp [drawS]
theorem drawS_get {n : Nat} {T : List Nat} {j : Nat} (h : j < n) : (drawS n T).chs[j]? = some (chD (decide (j ∉ T)) j) := by simp [drawS, h]
theorem modify_last {α : Type} (l : List α) (x : α) (f : α → α) : (l ++ [x]).modify l.length f = l ++ [f x] := by
  induction l with
  | nil => rfl
  | cons y l ih => simpa using ih
theorem talk_put (i : Nat) (t : Int) : talk ⟨(drawS i []).chs ++ [newCh 1], fun _ => none⟩ t [⟨3, (i : Int) + 1, 10 + (i : Int)⟩] 0 = ⟨drawS (i + 1) [], 0, 0, [], false, 0⟩ := by
  have hl : ((drawS i []).chs ++ [newCh 1]).length = i + 1 := by rw [List.length_append, drawS_len]; rfl
  have hi : ((i : Int) + 1 - 1).toNat = i := by omega
  have hg : ((drawS i []).chs ++ [newCh 1])[i]? = some (newCh 1) := by
    rw [List.getElem?_append_right (by rw [drawS_len]; exact Nat.le_refl _), drawS_len, Nat.sub_self]; rfl
  have hn : ¬ ((i : Int) + 1 = 0) := by omega
  have ho : other (i + 1) [⟨3, (i : Int) + 1, 10 + (i : Int)⟩] 0 (-1) = (-1, 0) := by
    have hm : may (i + 1) ((i : Int) + 1) = true := by unfold may; simp; omega
    simp [other, hm]
  have hf : frees ((drawS i []).chs ++ [newCh 1]) [⟨3, (i : Int) + 1, 10 + (i : Int)⟩] 0 = [0] := by
    have hfree : (newCh 1).free 3 = true := by decide
    simp [frees, isFree, chan, hn, hg, hfree]
  have hd : doT ⟨(drawS i []).chs ++ [newCh 1], fun _ => none⟩ ⟨3, (i : Int) + 1, 10 + (i : Int)⟩ = ⟨drawS (i + 1) [], 0, [], 0⟩ := by
    unfold doT
    simp only [hi, hg]
    rw [if_neg (by decide)]
    have hsend : send ⟨(drawS i []).chs ++ [newCh 1], fun _ => none⟩ i (newCh 1) (10 + (i : Int)) = ⟨setNums ⟨(drawS i []).chs ++ [newCh 1], fun _ => none⟩ i [10 + (i : Int)], 0, [], 0⟩ := rfl
    rw [hsend]
    have := modify_last (drawS i []).chs (newCh 1) fun c => { c with nums := [10 + (i : Int)] }
    rw [drawS_len] at this
    unfold setNums
    rw [this]
    simp [drawS, List.range_succ, chD, newCh]
  unfold talk
  simp only [hl, ho, hf]
  simp [hd, drawn]
theorem frees_range (chs : List Ch) : ∀ (m i : Nat), frees chs ((List.range' i m).map recvT) i = (List.range' i m).filter fun j => isFree chs (recvT j)
  | 0, i => rfl
  | m + 1, i => by
    rw [List.range'_succ, List.map_cons, frees, frees_range chs m (i + 1), List.filter_cons]
theorem isFree_draw {n : Nat} {T : List Nat} {j : Nat} (h : j < n) : isFree (drawS n T).chs (recvT j) = decide (j ∉ T) := by
  have hi : ((j : Int) + 1 - 1).toNat = j := by omega
  have hn : ¬ ((j : Int) + 1 = 0) := by omega
  unfold isFree chan recvT
  simp only [hi, if_neg hn, drawS_get h]
  by_cases e : j ∈ T <;> simp [Ch.free, chD, e]
def leftD (n : Nat) (T : List Nat) : List Nat := (List.range n).filter fun j => decide (j ∉ T)
theorem frees_draw (n : Nat) (T : List Nat) : frees (drawS n T).chs ((List.range n).map recvT) 0 = leftD n T := by
  rw [List.range_eq_range', frees_range, leftD, List.range_eq_range']
  refine List.filter_congr fun j hj => ?_
  rw [List.mem_range'_1] at hj
  exact isFree_draw (by omega)
theorem other_recvs (m : Nat) : ∀ (l : List Nat) (k : Nat) (o : Int), (∀ j ∈ l, j < m) → other m (l.map recvT) k o = (o, 0)
  | [], _, _, _ => rfl
  | j :: l, k, o, h => by
    have hm : may m ((j : Int) + 1) = true := by unfold may; have := h j List.mem_cons_self; simp; omega
    rw [List.map_cons, other]
    simp only [recvT, hm]
    rw [if_neg (by decide), if_neg (by decide), if_neg (by decide)]
    exact other_recvs m l (k + 1) o fun x hx => h x (List.mem_cons_of_mem _ hx)
theorem talk_take {n : Nat} {T : List Nat} (hn : n ≤ 6) {t draw : Int} {j : Nat} (hj : (leftD n T)[drawn draw (leftD n T).length]? = some j) :
    talk (drawS n T) t ((List.range n).map recvT) draw = ⟨drawS n (j :: T), j, 10 + (j : Int), [], false, 0⟩ := by
  have hmem : j ∈ leftD n T := List.mem_of_getElem? hj
  have hjn : j < n ∧ j ∉ T := by
    unfold leftD at hmem
    simpa using hmem
  have hpos : 0 < (leftD n T).length := List.length_pos_of_mem hmem
  have hi : ((j : Int) + 1 - 1).toNat = j := by omega
  have hd : doT (drawS n T) (recvT j) = ⟨drawS n (j :: T), 10 + (j : Int), [], 0⟩ := by
    unfold doT recvT
    simp only [hi, drawS_get hjn.1, if_true]
    unfold recv
    have hc : (chD (decide (j ∉ T)) j).nums = [10 + (j : Int)] := by simp [chD, hjn.2]
    have hs : (chD (decide (j ∉ T)) j).sends = [] := rfl
    simp only [hc, hs]
    have : setNums (drawS n T) j [] = drawS n (j :: T) := by
      unfold setNums drawS
      congr 1
      apply List.ext_getElem?
      intro k
      rw [List.getElem?_modify]
      by_cases hk : k < n
      · by_cases e : j = k
        · subst e; simp [hk, chD, hjn.2]
        · have e2 : ¬ k = j := fun e3 => e e3.symm
          simp [hk, chD, e, e2]
      · simp [hk]
    rw [this]
  have hgl : ((List.range n).map recvT).getD j ⟨0, 0, 0⟩ = recvT j := by
    rw [List.getD_eq_getElem?_getD]; simp [hjn.1]
  have hgd : (leftD n T).getD (drawn draw (leftD n T).length) 0 = j := by rw [List.getD_eq_getElem?_getD, hj]; rfl
  unfold talk
  rw [if_neg (by simp [drawS]), if_neg (by simp; omega), drawS_len, other_recvs n _ 0 (-1) (fun x hx => by simpa using hx), if_neg (by decide), frees_draw, if_pos hpos]
  simp only [hgd, hgl, hd]
  rw [if_neg (by decide)]
theorem talk_none {n : Nat} {T : List Nat} (hn : n ≤ 6) {t draw : Int} (h : leftD n T = []) : talk (drawS n T) t ((List.range n).map recvT) draw = ⟨wait (drawS n T) t ((List.range n).map recvT), 0, 0, [], true, 0⟩ := by
  unfold talk
  rw [if_neg (by simp [drawS]), if_neg (by simp; omega), drawS_len, other_recvs n _ 0 (-1) (fun x hx => by simpa using hx), if_neg (by decide), frees_draw, h]
  rw [if_neg (by decide), if_neg (by decide)]
theorem leftD_len {n : Nat} {T : List Nat} (hT : T.Nodup) (hs : ∀ j ∈ T, j < n) : (leftD n T).length = n - T.length := by
  unfold leftD
  induction T with
  | nil =>
    have : (List.range n).filter (fun j => decide (j ∉ ([] : List Nat))) = List.range n := List.filter_eq_self.2 fun _ _ => by simp
    rw [this]; simp
  | cons j T ih =>
    have hTn := List.nodup_cons.1 hT
    have hi := ih hTn.2 fun x hx => hs x (List.mem_cons_of_mem _ hx)
    have hj := hs j List.mem_cons_self
    have e : (List.range n).filter (fun x => decide (x ∉ j :: T)) = ((List.range n).filter fun x => decide (x ∉ T)).erase j := by
      rw [List.Nodup.erase_eq_filter (List.nodup_range.filter _), List.filter_filter]
      refine List.filter_congr fun x _ => ?_
      by_cases e : x = j <;> simp [e]
    rw [e, List.length_erase_of_mem (by simp [hj, hTn.1]), hi, List.length_cons]
    omega
end Pp
end Go.Proofs.Ytpehmghnfbkaaaa
