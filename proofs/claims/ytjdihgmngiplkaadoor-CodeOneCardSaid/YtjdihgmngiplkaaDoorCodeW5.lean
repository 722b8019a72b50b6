/-
  The walks of package code's reader: wrong, byte, number, count, end, ins.
-/
import Derived.Test.YtjdihgmngiplkaaDoorCodeW4
import Derived.IntWalk
namespace Go.Proofs.YtjdihgmngiplkaaDoor
open Go.RowKit Cd

/-- A block and its first cells, which may be written. -/
structure BlkO (w : World) (b : Nat) (vs : List Value) : Prop where
  at_ : ∀ j v, vs[j]? = some v → w.cell? ⟨b, j, none⟩ = some v
  free : ∀ j, w.frozen? ⟨b, j, none⟩ = false
  lt : b < w.heap.size
theorem BlkO.new (w : World) (xs : Array Value) (t : TypeId) : BlkO (w.alloc (.cells xs t)) w.heap.size xs.toList :=
  ⟨fun j v h => by rw [World.cell?_alloc_at _ _ _ _ rfl]; simpa using h, fun j => World.frozen?_alloc_new w _ _ _, by simp⟩
theorem BlkO.keeps {w w' : World} {S : Nat → Prop} {b : Nat} {vs : List Value} (h : BlkO w b vs) (hk : Keeps S w w') (hs : ¬ S b) : BlkO w' b vs :=
  ⟨fun j v hv => hk.cell_of (h.at_ j v hv) hs, fun j => by rw [hk.frozen (p := ⟨b, j, none⟩) h.lt hs]; exact h.free j, Nat.lt_of_lt_of_le h.lt hk.size⟩
theorem BlkO.below {w w' : World} {b : Nat} {vs : List Value} (h : BlkO w b vs) (hb : Below w.heap.size w w') : BlkO w' b vs := h.keeps (S := fun _ => False) (Keeps.of_new hb) id
theorem BlkO.set {w : World} {b : Nat} {vs : List Value} (h : BlkO w b vs) (i : Nat) (u : Value) (hi : i < vs.length) : BlkO (w.setCell ⟨b, i, none⟩ u) b (vs.set i u) := by
  refine ⟨fun j v hv => ?_, fun j => by rw [World.frozen?_setCell]; exact h.free j, by simpa [World.setCell] using h.lt⟩
  by_cases hij : i = j
  · subst hij
    rw [List.getElem?_set_self hi] at hv
    cases hv
    exact World.cell?_setCell_same _ _ _ (h.at_ i _ (List.getElem?_eq_getElem hi))
  · rw [List.getElem?_set_ne hij] at hv
    rw [World.cell?_setCell_other _ _ _ _ (by intro e; injection e with _ e2; exact hij e2)]
    exact h.at_ j v hv
theorem own_set (w : World) (b i : Nat) (u : Value) : Keeps (fun j => j = b) w (w.setCell ⟨b, i, none⟩ u) := (Keeps.refl (fun j => j = b) w).setCell (p := ⟨b, i, none⟩) (Or.inl rfl) u

/-- A reader in its block. -/
structure RdB (w : World) (rb : Nat) (s : ByteArray) (r : Rd) : Prop where
  blk : BlkO w rb [.string s, .int .i64 (r.at_ : Nat), errV r.err]
  le : r.at_ ≤ s.size
  small : s.size ≤ 60000
theorem RdB.keeps {w w' : World} {S : Nat → Prop} {rb : Nat} {s : ByteArray} {r : Rd} (h : RdB w rb s r) (hk : Keeps S w w') (hs : ¬ S rb) : RdB w' rb s r := ⟨h.blk.keeps hk hs, h.le, h.small⟩
theorem RdB.below {w w' : World} {rb : Nat} {s : ByteArray} {r : Rd} (h : RdB w rb s r) (hb : Below w.heap.size w w') : RdB w' rb s r := ⟨h.blk.below hb, h.le, h.small⟩

set_option maxRecDepth 100000 in
set_option maxHeartbeats 1600000 in
theorem wrong_any (x : Nat) (rb : Nat) (s : ByteArray) (r : Rd) (w : World) (hx : x ≠ 0) (h : RdB w rb s r) :
    Calls Tryd.prog 102 #[.pointer (some ⟨rb, 0, none⟩), .int .i64 x] w fun e w' => e = .returned (.tuple #[]) ∧ RdB w' rb s (r.wrong x) ∧ Keeps (fun b => b = rb) w w' := by
  have c2 := h.blk.at_ 2 _ rfl
  have f2 := h.blk.free 2
  have H := Lib.hid h
  have HXZ := Lib.hid hx
  by_cases h0 : r.err = 0
  · rw [h0, errV_0] at c2
    have HN : Hid (RdB (w.setCell ⟨rb, 2, none⟩ (.iface 26 (.int .i64 x))) rb s (r.wrong x) ∧ Keeps (fun b => b = rb) w (w.setCell ⟨rb, 2, none⟩ (.iface 26 (.int .i64 x)))) := Lib.hid ⟨⟨by
      have := H.out.blk.set 2 (.iface 26 (.int .i64 x)) (show 2 < 3 by decide)
      have e : (r.wrong x).err = x := by show (if r.err = 0 then x else r.err) = x; rw [if_pos h0]
      rw [e, errV_nz HXZ.out]
      exact this, H.out.le, H.out.small⟩, own_set _ _ _ _⟩
    clear h h0 hx
    go_enter Tryd.func102, Tryd.ntmps102
    go_wp2_with fail
    go_end0
    exact ⟨rfl, HN.out⟩
  · rw [errV_nz h0] at c2
    have HN : Hid (RdB w rb s (r.wrong x)) := Lib.hid (by
      have e : r.wrong x = r := by unfold Rd.wrong; rw [if_neg h0]
      rw [e]; exact H.out)
    clear h h0 hx f2
    go_enter Tryd.func102, Tryd.ntmps102
    go_wp2_with fail
    go_end0
    exact ⟨rfl, HN.out, Keeps.refl _ _⟩
theorem rd_cases (r : Rd) : r.err = 0 ∨ r.err ≠ 0 := by omega
theorem keeps_drew0 (w : World) (n : Nat) (S : Nat → Prop) : Keeps S w (w.drewN n) := ⟨rfl, rfl, rfl, Nat.le_refl _, fun _ _ _ => rfl⟩

set_option maxRecDepth 100000 in
set_option maxHeartbeats 3200000 in
theorem byte_any (rb : Nat) (s : ByteArray) (r : Rd) (w : World) (h : RdB w rb s r) :
    Calls Tryd.prog 103 #[.pointer (some ⟨rb, 0, none⟩)] w fun e w' => e = .returned (.int .i64 ((rdByte (bs s) r).1 : Nat)) ∧ RdB w' rb s (rdByte (bs s) r).2 ∧ Keeps (fun b => b = rb) w w' := by
  have c0 := h.blk.at_ 0 _ rfl
  have c1 := h.blk.at_ 1 _ rfl
  have c2 := h.blk.at_ 2 _ rfl
  have f1 := h.blk.free 1
  have hle := h.le
  have hsm := h.small
  have H := Lib.hid h
  clear h
  obtain ⟨at_, er⟩ := r
  dsimp only at c1 c2 hle
  by_cases h1 : at_ = s.size
  · have HV : Hid (rdByte (bs s) ⟨at_, er⟩ = (0, Rd.wrong ⟨at_, er⟩ 3)) := Lib.hid (if_pos (by rw [bs_length]; exact h1))
    have hb1 : ((at_ : Int) == (s.size : Int)) = true := by rw [beq_iff_eq]; omega
    have hd1 : decide ((at_ : Int) = (s.size : Int)) = true := decide_eq_true (by omega)
    have HW : Hid (∀ V, RdB V rb s ⟨at_, er⟩ → Calls Tryd.prog 102 #[.pointer (some ⟨rb, 0, none⟩), .int .i64 3] V fun e w' => e = .returned (.tuple #[]) ∧ RdB w' rb s (Rd.wrong ⟨at_, er⟩ 3) ∧ Keeps (fun b => b = rb) V w') := Lib.hid fun V hV => wrong_any 3 rb s _ V (by decide) hV
    have HE : Hid (errV (Rd.wrong ⟨at_, er⟩ 3).err = .iface 26 (.int .i64 ((Rd.wrong ⟨at_, er⟩ 3).err : Nat))) := Lib.hid (errV_nz (wrong_err (by decide)))
    have hse : s.size = at_ := h1.symm
    rw [hse] at hb1 hd1 hle hsm
    have HSE := Lib.hid hse
    clear h1 hse
    go_enter Tryd.func103, Tryd.ntmps103
    go_upto_region 1 with fail
    have hse := HSE.out
    go_quiet (fail)
    clear hse
    go_wp2_with fail
    refine (HW.out _ (H.out.keeps (keeps_drew0 _ _ (fun _ => False)) id)).mono ?_
    rintro e w2 ⟨rfl, hr2, hk2⟩
    have d2 := hr2.blk.at_ 2 _ rfl
    rw [HE.out] at d2
    have HR2 := Lib.hid hr2
    have HK2 := Lib.hid hk2
    clear hr2 hk2 c0 c1 c2 f1
    go_wp2_with fail
    go_ret
    exact ⟨by rw [HV.out]; rfl, by rw [HV.out]; exact HR2.out, (keeps_drew0 w _ _).trans HK2.out⟩
  · have hb1 : ((at_ : Int) == (s.size : Int)) = false := by rw [beq_eq_false_iff_ne]; omega
    have hd1 : decide ((at_ : Int) = (s.size : Int)) = false := decide_eq_false (by omega)
    have hd2 : decide (at_ = s.size) = false := decide_eq_false (by omega)
    have hlt : at_ < s.size := by omega
    by_cases h2 : er = 0
    · subst h2
      rw [errV_0] at c2
      have HV : Hid (rdByte (bs s) ⟨at_, 0⟩ = ((bs s).getD at_ 0, ⟨at_ + 1, 0⟩)) := Lib.hid (by
        unfold rdByte
        rw [if_neg (by rw [bs_length]; exact h1), if_pos rfl])
      have HGD := Lib.hid (bs_getD s at_ hlt)
      have hw1 : IntKind.i64.wrap ((at_ : Int) + 1) = (at_ : Int) + 1 := IntWalk.i64_in _ (by omega)
      have HB2 : Hid (∀ q, RdB ((w.drewN q).setCell ⟨rb, 1, none⟩ (.int .i64 ((at_ : Int) + 1))) rb s ⟨at_ + 1, 0⟩ ∧ Keeps (fun b => b = rb) w ((w.drewN q).setCell ⟨rb, 1, none⟩ (.int .i64 ((at_ : Int) + 1)))) := Lib.hid fun q =>
        ⟨⟨(H.out.keeps (keeps_drew0 w q (fun _ => False)) id).blk.set 1 (.int .i64 ((at_ + 1 : Nat) : Int)) (show 1 < 3 by decide), hlt, H.out.small⟩, (keeps_drew0 w q _).trans (own_set _ _ _ _)⟩
      have HLT := Lib.hid hlt
      have HSM := Lib.hid hsm
      clear h1
      go_enter Tryd.func103, Tryd.ntmps103
      go_upto_region 1 with fail
      go_quiet (fail)
      clear hd1 hd2 hb1
      go_upto_region 6 with fail
      obtain ⟨hr2, hk2⟩ := HB2.out nq
      clear HB2 c0 c1 c2 f1
      generalize (w.drewN nq).setCell ⟨rb, 1, none⟩ (.int .i64 ((at_ : Int) + 1)) = w2 at *
      have HR2 := Lib.hid hr2
      have HK2 := Lib.hid hk2
      have d0 := hr2.blk.at_ 0 _ rfl
      have d1 : w2.cell? ⟨rb, 1, none⟩ = some (.int .i64 ((at_ : Int) + 1)) := hr2.blk.at_ 1 _ rfl
      clear hr2 hk2
      have hi1 : (0 : Int) ≤ (at_ : Int) ∧ (at_ : Int) < (s.size : Int) := by omega
      have hsub : IntKind.i64.wrap ((at_ : Int) + 1 - 1) = (at_ : Int) := by rw [show (at_ : Int) + 1 - 1 = (at_ : Int) by omega]; exact IntWalk.i64_in _ (by omega)
      clear hw1
      go_quiet (fail)
      go_wp2_with fail
      go_ret
      have hw : wrap64 ((s[at_].toNat : Nat) : Int) = ((s[at_].toNat : Nat) : Int) := IntWalk.wrap64_in _ (by have := UInt8.toNat_lt s[at_]; omega)
      exact ⟨by
        rw [HV.out]
        show Ending.returned (Value.int .i64 (wrap64 ((s[at_].toNat : Nat) : Int))) = Ending.returned (.int .i64 (((bs s).getD at_ 0 : Nat) : Int))
        rw [HGD.out, hw]
        rfl, by rw [HV.out]; exact HR2.out.keeps (keeps_drew0 w2 _ (fun _ => False)) id, HK2.out.trans (keeps_drew0 w2 _ _)⟩
    · rw [errV_nz h2] at c2
      have HV : Hid (rdByte (bs s) ⟨at_, er⟩ = (0, ⟨at_, er⟩)) := Lib.hid (by
        unfold rdByte
        rw [if_neg (by rw [bs_length]; exact h1), if_neg h2])
      clear h1 h2 f1
      go_enter Tryd.func103, Tryd.ntmps103
      go_upto_region 1 with fail
      go_quiet (fail)
      go_wp2_with fail
      go_ret
      exact ⟨by rw [HV.out]; rfl, by rw [HV.out]; exact H.out.keeps (keeps_drew0 w _ (fun _ => False)) id, keeps_drew0 w _ _⟩

/-- Where the err cell tells nothing, or something. -/
theorem errV_ne {n : Nat} (h : n ≠ 0) : errV n = .iface 26 (.int .i64 n) := errV_nz h

set_option maxRecDepth 100000 in
set_option maxHeartbeats 3200000 in
theorem end_any (rb : Nat) (s : ByteArray) (r : Rd) (w : World) (h : RdB w rb s r) :
    Calls Tryd.prog 74 #[.pointer (some ⟨rb, 0, none⟩)] w fun e w' => e = .returned (errV (rdEnd (bs s) r)) ∧ (∃ r', RdB w' rb s r') ∧ Keeps (fun b => b = rb) w w' := by
  have c0 := h.blk.at_ 0 _ rfl
  have c1 := h.blk.at_ 1 _ rfl
  have c2 := h.blk.at_ 2 _ rfl
  have hle := h.le
  have hsm := h.small
  have H := Lib.hid h
  clear h
  obtain ⟨at_, er⟩ := r
  dsimp only at c1 c2 hle
  by_cases h1 : at_ = s.size
  · have HV : Hid (rdEnd (bs s) ⟨at_, er⟩ = er) := Lib.hid (by
      unfold rdEnd
      rw [if_pos (by rw [bs_length]; exact h1)])
    have hb1 : ((at_ : Int) == (s.size : Int)) = true := by rw [beq_iff_eq]; omega
    have hd1 : decide ((at_ : Int) = (s.size : Int)) = true := decide_eq_true (by omega)
    have HSE := Lib.hid h1.symm
    rw [← h1] at hb1 hd1 hle hsm
    clear h1
    obtain ⟨ev, hev⟩ : ∃ ev, ev = errV er := ⟨_, rfl⟩
    have HEV := Lib.hid hev
    rw [← hev] at c2
    clear hev
    go_enter Tryd.func74, Tryd.ntmps74
    go_upto_region 1 with fail
    have hse := HSE.out
    go_quiet (fail)
    clear hse
    go_wp2_with fail
    go_ret
    exact ⟨by rw [HV.out, ← HEV.out]; rfl, ⟨_, H.out.keeps (keeps_drew0 w _ (fun _ => False)) id⟩, keeps_drew0 w _ _⟩
  · have hb1 : ((at_ : Int) == (s.size : Int)) = false := by rw [beq_eq_false_iff_ne]; omega
    have hd1 : decide ((at_ : Int) = (s.size : Int)) = false := decide_eq_false (by omega)
    have hd2 : decide (at_ = s.size) = false := decide_eq_false (by omega)
    have HV : Hid (rdEnd (bs s) ⟨at_, er⟩ = (Rd.wrong ⟨at_, er⟩ 3).err) := Lib.hid (by
      unfold rdEnd
      rw [if_neg (by rw [bs_length]; exact h1)])
    have HW : Hid (∀ V, RdB V rb s ⟨at_, er⟩ → Calls Tryd.prog 102 #[.pointer (some ⟨rb, 0, none⟩), .int .i64 3] V fun e w' => e = .returned (.tuple #[]) ∧ RdB w' rb s (Rd.wrong ⟨at_, er⟩ 3) ∧ Keeps (fun b => b = rb) V w') := Lib.hid fun V hV => wrong_any 3 rb s _ V (by decide) hV
    clear h1
    go_enter Tryd.func74, Tryd.ntmps74
    go_upto_region 1 with fail
    go_quiet (fail)
    go_wp2_with fail
    refine (HW.out _ (H.out.keeps (keeps_drew0 _ _ (fun _ => False)) id)).mono ?_
    rintro e w2 ⟨rfl, hr2, hk2⟩
    have d2 := hr2.blk.at_ 2 _ rfl
    have HR2 := Lib.hid hr2
    have HK2 := Lib.hid hk2
    obtain ⟨ev, hev⟩ : ∃ ev, ev = errV (Rd.wrong ⟨at_, er⟩ 3).err := ⟨_, rfl⟩
    have HEV := Lib.hid hev
    rw [← hev] at d2
    clear hev
    clear hr2 hk2 c0 c1 c2
    go_wp2_with fail
    go_ret
    exact ⟨by rw [HV.out, ← HEV.out]; rfl, ⟨_, HR2.out⟩, (keeps_drew0 w _ _).trans HK2.out⟩
theorem readNum_b (s : ByteArray) (a rn rnext re : Nat) (W0 W : World) (hs : s.size ≤ 60000) (ha : a ≤ s.size) (hR : RN ((bs s).drop a) a rn rnext re) (hW : Below W0.heap.size W0 W) :
    Calls Tryd.prog 100 #[.string s, .int .i64 a] W fun e w' => e = .returned (.tuple #[.int .u64 rn, .int .i64 rnext, errV re]) ∧ Below W0.heap.size W0 w' :=
  (readNum_any s a rn rnext re W (by omega) ha hR).mono fun _ _ ⟨he, hb⟩ => ⟨he, hW.trans (hb.mono hW.size)⟩
theorem readInt_b (s : ByteArray) (a rn rnext re : Nat) (W0 W : World) (hs : s.size ≤ 60000) (ha : a ≤ s.size) (hR : RN ((bs s).drop a) a rn rnext re) (hn : rn < 2 ^ 64) (hW : Below W0.heap.size W0 W) :
    Calls Tryd.prog 145 #[.string s, .int .i64 a] W fun e w' => e = .returned (.tuple #[.int .i64 (uz rn), .int .i64 rnext, errV re]) ∧ Below W0.heap.size W0 w' :=
  (readInt_any s a rn rnext re W (by omega) ha hR hn).mono fun _ _ ⟨he, hb⟩ => ⟨he, hW.trans (hb.mono hW.size)⟩
/-- 'wrong' of a reader that stands in any world. -/
theorem wrong_at3 (x : Nat) {rb : Nat} {s : ByteArray} {r : Rd} (hx : x ≠ 0) : Hid (∀ V, RdB V rb s r → Calls Tryd.prog 102 #[.pointer (some ⟨rb, 0, none⟩), .int .i64 x] V fun e w' => e = .returned (.tuple #[]) ∧ RdB w' rb s (r.wrong x) ∧ Keeps (fun b => b = rb) V w') :=
  Lib.hid fun V hV => wrong_any x rb s r V hx hV
theorem wrong_again {r : Rd} {x y : Nat} (hx : x ≠ 0) : (r.wrong x).wrong y = r.wrong x := by
  have := wrong_err (r := r) hx
  unfold Rd.wrong at this ⊢
  dsimp only at this ⊢
  rw [if_neg this]

set_option maxRecDepth 100000 in
set_option maxHeartbeats 3200000 in
theorem number_any (rb : Nat) (s : ByteArray) (r : Rd) (w : World) (h : RdB w rb s r) :
    Calls Tryd.prog 122 #[.pointer (some ⟨rb, 0, none⟩)] w fun e w' => e = .returned (.int .i64 (rdNumber (bs s) r).1) ∧ RdB w' rb s (rdNumber (bs s) r).2 ∧ Keeps (fun b => b = rb) w w' := by
  have c0 := h.blk.at_ 0 _ rfl
  have c1 := h.blk.at_ 1 _ rfl
  have hle := h.le
  have hsm := h.small
  have hlt := h.blk.lt
  have H := Lib.hid h
  have HC : Hid (∀ V, Below w.heap.size w V → V.cell? ⟨rb, 0, none⟩ = some (.string s) ∧ V.cell? ⟨rb, 1, none⟩ = some (.int .i64 (r.at_ : Nat))) := Lib.hid fun V hV => ⟨(H.out.below hV).blk.at_ 0 _ rfl, (H.out.below hV).blk.at_ 1 _ rfl⟩
  have hbb : Below w.heap.size w w := Below.refl _ _
  clear h
  obtain ⟨at_, er⟩ := r
  dsimp only at c1 hle HC
  cases hrd : rd ((bs s).drop at_) with
  | none =>
    have HV : Hid (rdNumber (bs s) ⟨at_, er⟩ = (0, Rd.wrong ⟨at_, er⟩ 3)) := Lib.hid (by unfold rdNumber; rw [hrd])
    have HR := Lib.hid fun W => readInt_b s at_ 0 0 3 w W hsm hle (RN.rd_none hrd at_) (by decide)
    have HW : Hid (∀ V, RdB V rb s ⟨at_, er⟩ → Calls Tryd.prog 102 #[.pointer (some ⟨rb, 0, none⟩), .int .i64 3] V fun e w' => e = .returned (.tuple #[]) ∧ RdB w' rb s (Rd.wrong ⟨at_, er⟩ 3) ∧ Keeps (fun b => b = rb) V w') := wrong_at3 3 (by decide)
    have HE : Hid (errV (Rd.wrong ⟨at_, er⟩ 3).err = .iface 26 (.int .i64 ((Rd.wrong ⟨at_, er⟩ 3).err : Nat))) := Lib.hid (errV_nz (wrong_err (by decide)))
    rw [errV_3] at HR
    clear hrd
    go_enter Tryd.func122, Tryd.ntmps122
    go_upto_region 1 with fail
    go_region_held3 (fun V : World => V.cell? ⟨rb, 0, none⟩ = some (.string s) ∧ V.cell? ⟨rb, 1, none⟩ = some (.int .i64 (at_ : Nat))) (first | exact HC.out _ (by assumption) | exact HC.out _ (Below.drew (by assumption)))
      ((first | (go_at_call 145; refine (HR.out _ ?_).mono ?_; (first | assumption | exact Below.drew (by assumption)); rintro e V1 ⟨rfl, hv1⟩)))
    have HB1 := Lib.hid hv1
    clear hv1 c0 c1 hbb
    go_wp2_with fail
    refine (HW.out _ (H.out.below HB1.out)).mono ?_
    rintro e w2 ⟨rfl, hr2, hk2⟩
    have d2 := hr2.blk.at_ 2 _ rfl
    rw [HE.out] at d2
    have HR2 := Lib.hid hr2
    have HK2 := Lib.hid hk2
    clear hr2 hk2
    go_wp2_with fail
    go_ret
    exact ⟨by rw [HV.out]; rfl, by rw [HV.out]; exact HR2.out, (Keeps.of_new HB1.out).trans HK2.out⟩
  | some n =>
    have hn := rd_some hrd
    have HR := Lib.hid fun W => readInt_b s at_ n _ 0 w W hsm hle (RN.rd_some hrd at_) hn.1
    rw [errV_0] at HR
    by_cases h2 : er = 0
    · subst h2
      have c2 := H.out.blk.at_ 2 _ rfl
      dsimp only at c2
      rw [errV_0] at c2
      have HV : Hid (rdNumber (bs s) ⟨at_, 0⟩ = (uz n, ⟨at_ + (Vy.enc n).length, 0⟩)) := Lib.hid (by
        unfold rdNumber
        rw [hrd]
        dsimp only
        rw [if_pos rfl])
      have HL : Hid (at_ + (Vy.enc n).length ≤ s.size) := Lib.hid (by
        have := hn.len.2.1
        rw [List.length_drop, bs_length] at this
        omega)
      generalize at_ + (Vy.enc n).length = nx at *
      have HC2 : Hid (∀ V, Below w.heap.size w V → V.cell? ⟨rb, 2, none⟩ = some .nilIface ∧ V.frozen? ⟨rb, 1, none⟩ = false ∧ RdB (V.setCell ⟨rb, 1, none⟩ (.int .i64 (nx : Nat))) rb s ⟨nx, 0⟩ ∧ Keeps (fun b => b = rb) w (V.setCell ⟨rb, 1, none⟩ (.int .i64 (nx : Nat)))) := Lib.hid fun V hV =>
        ⟨(H.out.below hV).blk.at_ 2 _ rfl, (H.out.below hV).blk.free 1, ⟨(H.out.below hV).blk.set 1 (.int .i64 (nx : Nat)) (show 1 < 3 by decide), HL.out, H.out.small⟩, (Keeps.of_new hV).trans (own_set _ _ _ _)⟩
      generalize uz n = un at *
      clear hrd hn c2
      go_enter Tryd.func122, Tryd.ntmps122
      go_upto_region 1 with fail
      go_region_held3 (fun V : World => V.cell? ⟨rb, 0, none⟩ = some (.string s) ∧ V.cell? ⟨rb, 1, none⟩ = some (.int .i64 (at_ : Nat))) (first | exact HC.out _ (by assumption) | exact HC.out _ (Below.drew (by assumption)))
        ((first | (go_at_call 145; refine (HR.out _ ?_).mono ?_; (first | assumption | exact Below.drew (by assumption)); rintro e V1 ⟨rfl, hv1⟩)))
      have HB1 := Lib.hid hv1
      obtain ⟨d2, f1, hr2, hk2⟩ := HC2.out _ hv1
      obtain ⟨d0, d1⟩ := HC.out _ hv1
      have HR2 := Lib.hid hr2
      have HK2 := Lib.hid hk2
      clear hv1 c0 c1 hbb hr2 hk2 HC HC2
      go_wp2_with fail
      go_ret
      exact ⟨by rw [HV.out]; rfl, by rw [HV.out]; exact HR2.out, HK2.out⟩
    · have c2 := H.out.blk.at_ 2 _ rfl
      dsimp only at c2
      rw [errV_nz h2] at c2
      have HV : Hid (rdNumber (bs s) ⟨at_, er⟩ = (0, ⟨at_, er⟩)) := Lib.hid (by
        unfold rdNumber
        rw [hrd]
        dsimp only
        rw [if_neg h2])
      have HC2 : Hid (∀ V, Below w.heap.size w V → V.cell? ⟨rb, 2, none⟩ = some (.iface 26 (.int .i64 er))) := Lib.hid fun V hV => by
        have := (H.out.below hV).blk.at_ 2 _ rfl
        dsimp only at this
        rw [errV_nz h2] at this
        exact this
      generalize at_ + (Vy.enc n).length = nx at *
      generalize uz n = un at *
      clear hrd hn c2 h2
      go_enter Tryd.func122, Tryd.ntmps122
      go_upto_region 1 with fail
      go_region_held3 (fun V : World => V.cell? ⟨rb, 0, none⟩ = some (.string s) ∧ V.cell? ⟨rb, 1, none⟩ = some (.int .i64 (at_ : Nat))) (first | exact HC.out _ (by assumption) | exact HC.out _ (Below.drew (by assumption)))
        ((first | (go_at_call 145; refine (HR.out _ ?_).mono ?_; (first | assumption | exact Below.drew (by assumption)); rintro e V1 ⟨rfl, hv1⟩)))
      have HB1 := Lib.hid hv1
      have d2 := HC2.out _ hv1
      clear hv1 c0 c1 hbb HC HC2
      go_wp2_with fail
      go_ret
      exact ⟨by rw [HV.out]; rfl, by rw [HV.out]; exact H.out.below HB1.out, Keeps.of_new HB1.out⟩
end Go.Proofs.YtjdihgmngiplkaaDoor
