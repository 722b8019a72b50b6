/-
  Texts of one proof, in build order: TreeRA TreeRC TreeS1 TreeS2 TreeS3 TreeS4 TreeS5 TreeS6 TreeS7 TreeS8 TreeS9
-/
import Derived.Test.YtnpapppipccdbaaGreatDoorU2
set_option maxRecDepth 100000
set_option maxHeartbeats 12800000
namespace Go.Proofs.YtnpapppipccdbaaGreatDoor
open Go.RowKit Lx Tr
variable {w w' : World} {rb n d dd : Nat} {tv : Value} {E : Env}
structure ExB (w : World) (b c A N op : Nat) (lv : Value) : Prop where
 c0 : w.cell? ⟨b, 0, none⟩ = some (.int .i64 (c : Nat))
 c1 : w.cell? ⟨b, 1, none⟩ = some (.int .i64 (A : Nat))
 c2 : w.cell? ⟨b, 2, none⟩ = some (.int .i64 (N : Nat))
 c3 : w.cell? ⟨b, 3, none⟩ = some (.string (mkT []))
 c4 : w.cell? ⟨b, 4, none⟩ = some (.int .i64 (op : Nat))
 c5 : w.cell? ⟨b, 5, none⟩ = some lv
 c6 : w.cell? ⟨b, 6, none⟩ = some (.pointer none)
 c7 : w.cell? ⟨b, 7, none⟩ = some (.slice none 0 0)
 z : ∀ j, w.frozen? ⟨b, j, none⟩ = false
theorem I1 (w : World) (A : Nat) (t : TypeId) : ExB (w.alloc (.cells #[.int .i64 0, .int .i64 A, .int .i64 0, .string (mkT []), .int .i64 0, .pointer none, .pointer none, .slice none 0 0] t)) w.heap.size 0 A 0 0 (.pointer none) := by
  have hc : ∀ (j : Nat) (v : Value), (#[Value.int .i64 0, .int .i64 A, .int .i64 0, .string (mkT []), .int .i64 0, .pointer none, .pointer none, .slice none 0 0] : Array Value)[j]? = some v ->
      (w.alloc (.cells #[.int .i64 0, .int .i64 A, .int .i64 0, .string (mkT []), .int .i64 0, .pointer none, .pointer none, .slice none 0 0] t)).cell? ⟨w.heap.size, j, none⟩ = some v := fun j v h => by
    rw [World.cell?_alloc_at _ _ _ _ rfl]; exact h
  exact ⟨hc 0 _ rfl, hc 1 _ rfl, hc 2 _ rfl, hc 3 _ rfl, hc 4 _ rfl, hc 5 _ rfl, hc 6 _ rfl, hc 7 _ rfl, fun j => World.frozen?_alloc_new w _ _ _⟩
theorem ExB.keeps {S : Nat -> Prop} {b c A N op : Nat} {lv : Value} (h : ExB w b c A N op lv) (hk : Keeps S w w') (hs : ¬ S b) : ExB w' b c A N op lv :=
 ⟨hk.cell_of h.c0 hs, hk.cell_of h.c1 hs, hk.cell_of h.c2 hs, hk.cell_of h.c3 hs, hk.cell_of h.c4 hs, hk.cell_of h.c5 hs, hk.cell_of h.c6 hs, hk.cell_of h.c7 hs, fun j => by rw [hk.frozen (p := ⟨b, j, none⟩) (show b < w.heap.size from block_lt_of_cell h.c0) hs]; exact h.z j⟩
theorem ExB.set0 {b c A N op : Nat} {lv : Value} (h : ExB w b c A N op lv) (c2 : Nat) : ExB (w.setCell ⟨b, 0, none⟩ (.int .i64 (c2 : Nat))) b c2 A N op lv :=
 ⟨World.cell?_setCell_same _ _ _ h.c0, by rw [World.cell?_setCell_other _ _ _ _ (aQ (by decide) b)]; exact h.c1, by rw [World.cell?_setCell_other _ _ _ _ (aQ (by decide) b)]; exact h.c2, by rw [World.cell?_setCell_other _ _ _ _ (aQ (by decide) b)]; exact h.c3, by rw [World.cell?_setCell_other _ _ _ _ (aQ (by decide) b)]; exact h.c4, by rw [World.cell?_setCell_other _ _ _ _ (aQ (by decide) b)]; exact h.c5, by rw [World.cell?_setCell_other _ _ _ _ (aQ (by decide) b)]; exact h.c6, by rw [World.cell?_setCell_other _ _ _ _ (aQ (by decide) b)]; exact h.c7, fun j => by rw [World.frozen?_setCell]; exact h.z j⟩
theorem ExB.set2 {b c A N op : Nat} {lv : Value} (h : ExB w b c A N op lv) (N2 : Nat) : ExB (w.setCell ⟨b, 2, none⟩ (.int .i64 (N2 : Nat))) b c A N2 op lv :=
 ⟨by rw [World.cell?_setCell_other _ _ _ _ (aQ (by decide) b)]; exact h.c0, by rw [World.cell?_setCell_other _ _ _ _ (aQ (by decide) b)]; exact h.c1, World.cell?_setCell_same _ _ _ h.c2, by rw [World.cell?_setCell_other _ _ _ _ (aQ (by decide) b)]; exact h.c3, by rw [World.cell?_setCell_other _ _ _ _ (aQ (by decide) b)]; exact h.c4, by rw [World.cell?_setCell_other _ _ _ _ (aQ (by decide) b)]; exact h.c5, by rw [World.cell?_setCell_other _ _ _ _ (aQ (by decide) b)]; exact h.c6, by rw [World.cell?_setCell_other _ _ _ _ (aQ (by decide) b)]; exact h.c7, fun j => by rw [World.frozen?_setCell]; exact h.z j⟩
theorem ExB.set4 {b c A N op : Nat} {lv : Value} (h : ExB w b c A N op lv) (o2 : Nat) : ExB (w.setCell ⟨b, 4, none⟩ (.int .i64 (o2 : Nat))) b c A N o2 lv :=
 ⟨by rw [World.cell?_setCell_other _ _ _ _ (aQ (by decide) b)]; exact h.c0, by rw [World.cell?_setCell_other _ _ _ _ (aQ (by decide) b)]; exact h.c1, by rw [World.cell?_setCell_other _ _ _ _ (aQ (by decide) b)]; exact h.c2, by rw [World.cell?_setCell_other _ _ _ _ (aQ (by decide) b)]; exact h.c3, World.cell?_setCell_same _ _ _ h.c4, by rw [World.cell?_setCell_other _ _ _ _ (aQ (by decide) b)]; exact h.c5, by rw [World.cell?_setCell_other _ _ _ _ (aQ (by decide) b)]; exact h.c6, by rw [World.cell?_setCell_other _ _ _ _ (aQ (by decide) b)]; exact h.c7, fun j => by rw [World.frozen?_setCell]; exact h.z j⟩
theorem ExB.set5 {b c A N op : Nat} {lv : Value} (h : ExB w b c A N op lv) (l2 : Value) : ExB (w.setCell ⟨b, 5, none⟩ l2) b c A N op l2 :=
 ⟨by rw [World.cell?_setCell_other _ _ _ _ (aQ (by decide) b)]; exact h.c0, by rw [World.cell?_setCell_other _ _ _ _ (aQ (by decide) b)]; exact h.c1, by rw [World.cell?_setCell_other _ _ _ _ (aQ (by decide) b)]; exact h.c2, by rw [World.cell?_setCell_other _ _ _ _ (aQ (by decide) b)]; exact h.c3, by rw [World.cell?_setCell_other _ _ _ _ (aQ (by decide) b)]; exact h.c4, World.cell?_setCell_same _ _ _ h.c5, by rw [World.cell?_setCell_other _ _ _ _ (aQ (by decide) b)]; exact h.c6, by rw [World.cell?_setCell_other _ _ _ _ (aQ (by decide) b)]; exact h.c7, fun j => by rw [World.frozen?_setCell]; exact h.z j⟩
theorem ExB.ex {F : Nat -> Prop} {b c A N op : Nat} {lv : Value} {l : Ex} (h : ExB w b c A N op lv) (hF : F b) (hl : ExIn w F lv l) : ExIn w F (.pointer (some ⟨b, 0, none⟩)) (.mk c A N op [] l .nil .nil) :=
 ⟨b, lv, .pointer none, .slice none 0 0, rfl, hF, h.c0, h.c1, h.c2, h.c3, h.c4, h.c5, h.c6, h.c7, hl, rfl, Or.inl ⟨rfl, rfl⟩, fun g m cap e => by cases e⟩
theorem dD (hb : Below w.heap.size w w') (o1 o2 : Obj) : Below w.heap.size w ((w'.alloc o1).alloc o2) := (hb.alloc hb.size _).alloc (Nat.le_trans hb.size (by simp)) _
theorem kH (w : World) (K A : Nat) (T : ByteArray) (t1 t2 : TypeId) : ExB ((w.alloc (.cells #[.int .i64 K, .string T, .int .i64 A] t1)).alloc (.cells #[.int .i64 0, .int .i64 A, .int .i64 0, .string (mkT []), .int .i64 0, .pointer none, .pointer none, .slice none 0 0] t2)) (w.heap.size + 1) 0 A 0 0 (.pointer none) ∧
  ((w.alloc (.cells #[.int .i64 K, .string T, .int .i64 A] t1)).alloc (.cells #[.int .i64 0, .int .i64 A, .int .i64 0, .string (mkT []), .int .i64 0, .pointer none, .pointer none, .slice none 0 0] t2)).cell? ⟨w.heap.size, 1, none⟩ = some (.string T) := by
 refine ⟨?_, ?_⟩
 ·have h := I1 (w.alloc (.cells #[.int .i64 K, .string T, .int .i64 A] t1)) A t2
  rw [show (w.alloc (.cells #[.int .i64 K, .string T, .int .i64 A] t1)).heap.size = w.heap.size + 1 by simp] at h
  exact h
 ·exact aZ (bK _ _ _ 1 _ rfl rfl)
theorem Ev.map {α β : Type} {g : Nat -> Res α} {r : Res α} (k : α -> Nat -> Res β) (hk : ∀ x m, k x m ≠ .out) (h : Ev g r) : Ev (fun f => (g f).bind k) (r.bind k) := by
 cases r with
 | out => exact absurd rfl h.1
 | bad a b => exact Ev.bad h
 | ok x m => exact Ev.then h (Ev.pure (hk x m) fun _ => rfl)
theorem lM {dep : Nat} (h : RdAt w rb tv E n dep) (W : World) (hb : Below w.heap.size w W) : Calls Tryz.prog 153 #[.pointer (some ⟨rb, 0, none⟩)] W fun e w' => e = .returned (aR (pk E n)) /\ Below w.heap.size w w' :=
 (aN W (h.fresh hb)).mono fun _ _ ⟨h1, h2⟩ => ⟨h1, hb.trans (h2.mono hb.size)⟩
theorem C8 {dep : Nat} (hd : dd <= 12) (w : World) (h : RdAt w rb tv E n dep) (hE : TEnv rb E w) (k3 : (pk E n).kind ≠ 3) (k1 : (pk E n).kind ≠ 1) (ht : (pk E n).text = eY) : Calls Tryz.prog 311 #[.pointer (some ⟨rb, 0, none⟩), .int .i64 (dd : Nat)] w fun e w' =>
  ∃ r, Ev (fun f => Tr.one E f dd n) r /\ bL ExV w w' rb tv E dep r e := by
 have HP := zz (lM h)
 have H0 := zz h
 have HE := zz hE
 have hn := d8 ht (by decide)
 have HSK : Hid (∀ W, RdAt W rb tv E n dep -> Calls Tryz.prog 159 #[.pointer (some ⟨rb, 0, none⟩)] W fun e w' => e = .returned (aR (pk E n)) /\ RdAt w' rb tv E (n + 1) dep /\ Keeps (fun b => b = rb) W w') := zz fun W hW => bF W hW hn
 have HEV : Hid (Ev (fun f => Tr.one E f dd n) (.ok (leaf 2 (pk E n).at_ 1 []) (n + 1))) := zz (Ev.now (fun e => by cases e) fun f => by rw [fQ, if_neg (by omega), if_neg k3, if_neg k1, ht]; rfl)
 have hi : (dd : Int) <= 12 := by omega
 have hw : IntKind.i64.wrap ((dd : Int) + 1) = (dd : Int) + 1 := IntWalk.i64_in _ (by omega)
 have i3 : ¬ ((pk E n).kind : Int) = 3 := by omega
 have i1 : ¬ ((pk E n).kind : Int) = 1 := by omega
 unfold aR at HP HSK
 rw [ht] at HP HSK
 obtain ⟨T, hT⟩ : ∃ T, T = mkT eY := ⟨_, rfl⟩
 rw [<- hT] at HP HSK
 have b0 : (T.toList == [40]) = false := by rw [hT, Lib.toList_data]; rfl
 have b1 : (T.toList == [45]) = false := by rw [hT, Lib.toList_data]; rfl
 have b2 : (T.toList == [94]) = false := by rw [hT, Lib.toList_data]; rfl
 have b3 : (T.toList == [33]) = false := by rw [hT, Lib.toList_data]; rfl
 have b4 : (T.toList == [60, 45]) = false := by rw [hT, Lib.toList_data]; rfl
 have b5 : (T.toList == [109, 97, 107, 101]) = false := by rw [hT, Lib.toList_data]; rfl
 have b6 : (T.toList == [108, 101, 110]) = false := by rw [hT, Lib.toList_data]; rfl
 have b7 : (T.toList == [116, 114, 117, 101]) = true := by rw [hT, Lib.toList_data]; rfl
 have HT := zz hT
 clear h hE k3 k1 hd ht hn hT
 generalize (pk E n).kind = K at *
 obtain ⟨A, hA⟩ : ∃ A, A = (pk E n).at_ := ⟨_, rfl⟩
 rw [<- hA] at *
 clear hA
 have hf := aV
 go_enter Tryz.func311, Tryz.ntmps311
 go_wp2_with (first
  | (go_at_call 153; refine (HP.out _ (by first | exact Below.refl _ _ | assumption)).mono ?_; rintro e w1 ⟨rfl, hb1⟩))
 refine (HSK.out _ (H0.out.fresh (dD hb1 _ _))).mono ?_
 rintro e w3 ⟨rfl, hr3, hk3⟩
 obtain ⟨hx2, ht2⟩ := kH w1 K (pk E n).at_ T 110 64
 have hb2 := dD hb1 (.cells #[.int .i64 K, .string T, .int .i64 (pk E n).at_] 110) (.cells #[.int .i64 0, .int .i64 (pk E n).at_, .int .i64 0, .string (mkT []), .int .i64 0, .pointer none, .pointer none, .slice none 0 0] 64)
 have hlo := H0.out.lt
 have hsz := hb1.size
 have hne : ¬ w1.heap.size + 1 = rb := by omega
 have hne1 : ¬ w1.heap.size = rb := by omega
 have hx3 := hx2.keeps hk3 hne
 have ht3 := hk3.cell_of ht2 hne1
 have hk03 := (Keeps.of_new hb2).trans hk3
 have hxlt : w1.heap.size + 1 < w3.heap.size := block_lt_of_cell hx3.c0
 have HX3 := zz hx3
 have HT3 := zz ht3
 have HR3 := zz hr3
 have HK3 := zz hk03
 have HB2 := zz hb2
 have HB1 := zz hb1
 have HLO := zz (show rb < w.heap.size /\ w.heap.size <= w1.heap.size from ⟨hlo, hsz⟩)
 have HXL := zz hxlt
 have HNE := zz hne
 clear hx2 ht2 hx3 ht3 hr3 hk3 hk03 hb2 hb1 hlo hsz hne1 hne hxlt
 have x0 := HX3.out.c0
 have z0 := HX3.out.z 0
 have x2 := HX3.out.c2
 have z2 := HX3.out.z 2
 go_wp2_with fail
 go_ret
 have hks := (((Keeps.refl (fun b => b = w1.heap.size + 1) w3).setCell (S := fun b => b = w1.heap.size + 1) (p := ⟨w1.heap.size + 1, 0, none⟩) (Or.inl rfl) (.int .i64 2)).setCell (S := fun b => b = w1.heap.size + 1) (p := ⟨w1.heap.size + 1, 2, none⟩) (Or.inl rfl) (.int .i64 1))
 refine ⟨_, HEV.out, _, rfl, ((HX3.out.set0 2).set2 1).ex (show w.heap.size <= w1.heap.size + 1 by have := HLO.out.2; omega) rfl, HR3.out.keeps hks (fun b e => by have := HLO.out; have : b = w1.heap.size + 1 := e; omega), HK3.out.trans' hks (fun b h e => by have := HLO.out; have : b = w1.heap.size + 1 := e; omega)⟩
theorem yR {dep : Nat} (hd : dd <= 12) (w : World) (h : RdAt w rb tv E n dep) (hE : TEnv rb E w) (k3 : (pk E n).kind ≠ 3) (k1 : (pk E n).kind ≠ 1) (ht : (pk E n).text = cW) : Calls Tryz.prog 311 #[.pointer (some ⟨rb, 0, none⟩), .int .i64 (dd : Nat)] w fun e w' =>
  ∃ r, Ev (fun f => Tr.one E f dd n) r /\ bL ExV w w' rb tv E dep r e := by
 have HP := zz (lM h)
 have H0 := zz h
 have HE := zz hE
 have hn := d8 ht (by decide)
 have HSK : Hid (∀ W, RdAt W rb tv E n dep -> Calls Tryz.prog 159 #[.pointer (some ⟨rb, 0, none⟩)] W fun e w' => e = .returned (aR (pk E n)) /\ RdAt w' rb tv E (n + 1) dep /\ Keeps (fun b => b = rb) W w') := zz fun W hW => bF W hW hn
 have HEV : Hid (Ev (fun f => Tr.one E f dd n) (.ok (leaf 2 (pk E n).at_ 0 []) (n + 1))) := zz (Ev.now (fun e => by cases e) fun f => by rw [fQ, if_neg (by omega), if_neg k3, if_neg k1, ht]; rfl)
 have hi : (dd : Int) <= 12 := by omega
 have hw : IntKind.i64.wrap ((dd : Int) + 1) = (dd : Int) + 1 := IntWalk.i64_in _ (by omega)
 have i3 : ¬ ((pk E n).kind : Int) = 3 := by omega
 have i1 : ¬ ((pk E n).kind : Int) = 1 := by omega
 unfold aR at HP HSK
 rw [ht] at HP HSK
 obtain ⟨T, hT⟩ : ∃ T, T = mkT cW := ⟨_, rfl⟩
 rw [<- hT] at HP HSK
 have b0 : (T.toList == [40]) = false := by rw [hT, Lib.toList_data]; rfl
 have b1 : (T.toList == [45]) = false := by rw [hT, Lib.toList_data]; rfl
 have b2 : (T.toList == [94]) = false := by rw [hT, Lib.toList_data]; rfl
 have b3 : (T.toList == [33]) = false := by rw [hT, Lib.toList_data]; rfl
 have b4 : (T.toList == [60, 45]) = false := by rw [hT, Lib.toList_data]; rfl
 have b5 : (T.toList == [109, 97, 107, 101]) = false := by rw [hT, Lib.toList_data]; rfl
 have b6 : (T.toList == [108, 101, 110]) = false := by rw [hT, Lib.toList_data]; rfl
 have b7 : (T.toList == [116, 114, 117, 101]) = false := by rw [hT, Lib.toList_data]; rfl
 have b8 : (T.toList == [102, 97, 108, 115, 101]) = true := by rw [hT, Lib.toList_data]; rfl
 have HT := zz hT
 clear h hE k3 k1 hd ht hn hT
 generalize (pk E n).kind = K at *
 obtain ⟨A, hA⟩ : ∃ A, A = (pk E n).at_ := ⟨_, rfl⟩
 rw [<- hA] at *
 clear hA
 have hf := aV
 go_enter Tryz.func311, Tryz.ntmps311
 go_wp2_with (first
  | (go_at_call 153; refine (HP.out _ (by first | exact Below.refl _ _ | assumption)).mono ?_; rintro e w1 ⟨rfl, hb1⟩))
 refine (HSK.out _ (H0.out.fresh (dD hb1 _ _))).mono ?_
 rintro e w3 ⟨rfl, hr3, hk3⟩
 obtain ⟨hx2, ht2⟩ := kH w1 K (pk E n).at_ T 110 64
 have hb2 := dD hb1 (.cells #[.int .i64 K, .string T, .int .i64 (pk E n).at_] 110) (.cells #[.int .i64 0, .int .i64 (pk E n).at_, .int .i64 0, .string (mkT []), .int .i64 0, .pointer none, .pointer none, .slice none 0 0] 64)
 have hlo := H0.out.lt
 have hsz := hb1.size
 have hne : ¬ w1.heap.size + 1 = rb := by omega
 have hne1 : ¬ w1.heap.size = rb := by omega
 have hx3 := hx2.keeps hk3 hne
 have ht3 := hk3.cell_of ht2 hne1
 have hk03 := (Keeps.of_new hb2).trans hk3
 have hxlt : w1.heap.size + 1 < w3.heap.size := block_lt_of_cell hx3.c0
 have HX3 := zz hx3
 have HT3 := zz ht3
 have HR3 := zz hr3
 have HK3 := zz hk03
 have HB2 := zz hb2
 have HB1 := zz hb1
 have HLO := zz (show rb < w.heap.size /\ w.heap.size <= w1.heap.size from ⟨hlo, hsz⟩)
 have HXL := zz hxlt
 have HNE := zz hne
 clear hx2 ht2 hx3 ht3 hr3 hk3 hk03 hb2 hb1 hlo hsz hne1 hne hxlt
 have x0 := HX3.out.c0
 have z0 := HX3.out.z 0
 go_wp2_with fail
 go_ret
 have hks := ((Keeps.refl (fun b => b = w1.heap.size + 1) w3).setCell (S := fun b => b = w1.heap.size + 1) (p := ⟨w1.heap.size + 1, 0, none⟩) (Or.inl rfl) (.int .i64 2))
 refine ⟨_, HEV.out, _, rfl, (HX3.out.set0 2).ex (show w.heap.size <= w1.heap.size + 1 by have := HLO.out.2; omega) rfl, HR3.out.keeps hks (fun b e => by have := HLO.out; have : b = w1.heap.size + 1 := e; omega), HK3.out.trans' hks (fun b h e => by have := HLO.out; have : b = w1.heap.size + 1 := e; omega)⟩
theorem FC {dep : Nat} (hd : dd <= 12) (w : World) (h : RdAt w rb tv E n dep) (hE : TEnv rb E w) (k3 : (pk E n).kind ≠ 3) (k1 : (pk E n).kind ≠ 1) (ht : (pk E n).text = iS) : Calls Tryz.prog 311 #[.pointer (some ⟨rb, 0, none⟩), .int .i64 (dd : Nat)] w fun e w' =>
  ∃ r, Ev (fun f => Tr.one E f dd n) r /\ bL ExV w w' rb tv E dep r e := by
 have HP := zz (lM h)
 have H0 := zz h
 have HE := zz hE
 have hn := d8 ht (by decide)
 have HSK : Hid (∀ W, RdAt W rb tv E n dep -> Calls Tryz.prog 159 #[.pointer (some ⟨rb, 0, none⟩)] W fun e w' => e = .returned (aR (pk E n)) /\ RdAt w' rb tv E (n + 1) dep /\ Keeps (fun b => b = rb) W w') := zz fun W hW => bF W hW hn
 have HEV : Hid (Ev (fun f => Tr.one E f dd n) (.ok (leaf 3 (pk E n).at_ 0 []) (n + 1))) := zz (Ev.now (fun e => by cases e) fun f => by rw [fQ, if_neg (by omega), if_neg k3, if_neg k1, ht]; rfl)
 have hi : (dd : Int) <= 12 := by omega
 have hw : IntKind.i64.wrap ((dd : Int) + 1) = (dd : Int) + 1 := IntWalk.i64_in _ (by omega)
 have i3 : ¬ ((pk E n).kind : Int) = 3 := by omega
 have i1 : ¬ ((pk E n).kind : Int) = 1 := by omega
 unfold aR at HP HSK
 rw [ht] at HP HSK
 obtain ⟨T, hT⟩ : ∃ T, T = mkT iS := ⟨_, rfl⟩
 rw [<- hT] at HP HSK
 have b0 : (T.toList == [40]) = false := by rw [hT, Lib.toList_data]; rfl
 have b1 : (T.toList == [45]) = false := by rw [hT, Lib.toList_data]; rfl
 have b2 : (T.toList == [94]) = false := by rw [hT, Lib.toList_data]; rfl
 have b3 : (T.toList == [33]) = false := by rw [hT, Lib.toList_data]; rfl
 have b4 : (T.toList == [60, 45]) = false := by rw [hT, Lib.toList_data]; rfl
 have b5 : (T.toList == [109, 97, 107, 101]) = false := by rw [hT, Lib.toList_data]; rfl
 have b6 : (T.toList == [108, 101, 110]) = false := by rw [hT, Lib.toList_data]; rfl
 have b7 : (T.toList == [116, 114, 117, 101]) = false := by rw [hT, Lib.toList_data]; rfl
 have b8 : (T.toList == [102, 97, 108, 115, 101]) = false := by rw [hT, Lib.toList_data]; rfl
 have b9 : (T.toList == [110, 105, 108]) = true := by rw [hT, Lib.toList_data]; rfl
 have HT := zz hT
 clear h hE k3 k1 hd ht hn hT
 generalize (pk E n).kind = K at *
 obtain ⟨A, hA⟩ : ∃ A, A = (pk E n).at_ := ⟨_, rfl⟩
 rw [<- hA] at *
 clear hA
 have hf := aV
 go_enter Tryz.func311, Tryz.ntmps311
 go_wp2_with (first
  | (go_at_call 153; refine (HP.out _ (by first | exact Below.refl _ _ | assumption)).mono ?_; rintro e w1 ⟨rfl, hb1⟩))
 refine (HSK.out _ (H0.out.fresh (dD hb1 _ _))).mono ?_
 rintro e w3 ⟨rfl, hr3, hk3⟩
 obtain ⟨hx2, ht2⟩ := kH w1 K (pk E n).at_ T 110 64
 have hb2 := dD hb1 (.cells #[.int .i64 K, .string T, .int .i64 (pk E n).at_] 110) (.cells #[.int .i64 0, .int .i64 (pk E n).at_, .int .i64 0, .string (mkT []), .int .i64 0, .pointer none, .pointer none, .slice none 0 0] 64)
 have hlo := H0.out.lt
 have hsz := hb1.size
 have hne : ¬ w1.heap.size + 1 = rb := by omega
 have hne1 : ¬ w1.heap.size = rb := by omega
 have hx3 := hx2.keeps hk3 hne
 have ht3 := hk3.cell_of ht2 hne1
 have hk03 := (Keeps.of_new hb2).trans hk3
 have hxlt : w1.heap.size + 1 < w3.heap.size := block_lt_of_cell hx3.c0
 have HX3 := zz hx3
 have HT3 := zz ht3
 have HR3 := zz hr3
 have HK3 := zz hk03
 have HB2 := zz hb2
 have HB1 := zz hb1
 have HLO := zz (show rb < w.heap.size /\ w.heap.size <= w1.heap.size from ⟨hlo, hsz⟩)
 have HXL := zz hxlt
 have HNE := zz hne
 clear hx2 ht2 hx3 ht3 hr3 hk3 hk03 hb2 hb1 hlo hsz hne1 hne hxlt
 have x0 := HX3.out.c0
 have z0 := HX3.out.z 0
 go_wp2_with fail
 go_ret
 have hks := ((Keeps.refl (fun b => b = w1.heap.size + 1) w3).setCell (S := fun b => b = w1.heap.size + 1) (p := ⟨w1.heap.size + 1, 0, none⟩) (Or.inl rfl) (.int .i64 3))
 refine ⟨_, HEV.out, _, rfl, (HX3.out.set0 3).ex (show w.heap.size <= w1.heap.size + 1 by have := HLO.out.2; omega) rfl, HR3.out.keeps hks (fun b e => by have := HLO.out; have : b = w1.heap.size + 1 := e; omega), HK3.out.trans' hks (fun b h e => by have := HLO.out; have : b = w1.heap.size + 1 := e; omega)⟩
theorem C9 {dep : Nat} (hd : dd <= 12) (hX : kY rb tv E dep (dd + 1)) (w : World) (h : RdAt w rb tv E n dep) (hE : TEnv rb E w) (k3 : (pk E n).kind ≠ 3) (k1 : (pk E n).kind ≠ 1) (ht : (pk E n).text = dZ) : Calls Tryz.prog 311 #[.pointer (some ⟨rb, 0, none⟩), .int .i64 (dd : Nat)] w fun e w' =>
  ∃ r, Ev (fun f => Tr.one E f dd n) r /\ bL ExV w w' rb tv E dep r e := by
 have HP := zz (lM h)
 have H0 := zz h
 have HE := zz hE
 have hn := d8 ht (by decide)
 have HSK : Hid (∀ W, RdAt W rb tv E n dep -> Calls Tryz.prog 159 #[.pointer (some ⟨rb, 0, none⟩)] W fun e w' => e = .returned (aR (pk E n)) /\ RdAt w' rb tv E (n + 1) dep /\ Keeps (fun b => b = rb) W w') := zz fun W hW => bF W hW hn
 have HX := zz hX
 have HDD := zz (show dd <= 20 by omega)
 have HEV : Hid (∀ r, Ev (fun f => bracketed E f dd (n + 1)) r -> Ev (fun f => Tr.one E f dd n) (r.bind fun x m => .ok (.mk 8 (pk E n).at_ 0 0 [] x .nil .nil) m)) := zz fun r hr => Ev.step (h := fun f => (bracketed E f dd (n + 1)).bind fun x m => .ok (.mk 8 (pk E n).at_ 0 0 [] x .nil .nil) m) (fun f => by rw [fQ, if_neg (by omega), if_neg k3, if_neg k1, ht]; rfl) (Ev.map _ (fun _ _ e => by cases e) hr)
 have hi : (dd : Int) <= 12 := by omega
 have hw : IntKind.i64.wrap ((dd : Int) + 1) = (dd : Int) + 1 := IntWalk.i64_in _ (by omega)
 have i3 : ¬ ((pk E n).kind : Int) = 3 := by omega
 have i1 : ¬ ((pk E n).kind : Int) = 1 := by omega
 unfold aR at HP HSK
 rw [ht] at HP HSK
 obtain ⟨T, hT⟩ : ∃ T, T = mkT dZ := ⟨_, rfl⟩
 rw [<- hT] at HP HSK
 have b0 : (T.toList == [40]) = false := by rw [hT, Lib.toList_data]; rfl
 have b1 : (T.toList == [45]) = false := by rw [hT, Lib.toList_data]; rfl
 have b2 : (T.toList == [94]) = false := by rw [hT, Lib.toList_data]; rfl
 have b3 : (T.toList == [33]) = false := by rw [hT, Lib.toList_data]; rfl
 have b4 : (T.toList == [60, 45]) = false := by rw [hT, Lib.toList_data]; rfl
 have b5 : (T.toList == [109, 97, 107, 101]) = true := by rw [hT, Lib.toList_data]; rfl
 have HT := zz hT
 clear h hE k3 k1 hd ht hn hT hX
 generalize (pk E n).kind = K at *
 obtain ⟨A, hA⟩ : ∃ A, A = (pk E n).at_ := ⟨_, rfl⟩
 rw [<- hA] at *
 clear hA
 have hf := aV
 go_enter Tryz.func311, Tryz.ntmps311
 go_wp2_with (first
  | (go_at_call 153; refine (HP.out _ (by first | exact Below.refl _ _ | assumption)).mono ?_; rintro e w1 ⟨rfl, hb1⟩))
 refine (HSK.out _ (H0.out.fresh (dD hb1 _ _))).mono ?_
 rintro e w3 ⟨rfl, hr3, hk3⟩
 obtain ⟨hx2, ht2⟩ := kH w1 K (pk E n).at_ T 110 64
 have hb2 := dD hb1 (.cells #[.int .i64 K, .string T, .int .i64 (pk E n).at_] 110) (.cells #[.int .i64 0, .int .i64 (pk E n).at_, .int .i64 0, .string (mkT []), .int .i64 0, .pointer none, .pointer none, .slice none 0 0] 64)
 have hlo := H0.out.lt
 have hsz := hb1.size
 have hne : ¬ w1.heap.size + 1 = rb := by omega
 have hne1 : ¬ w1.heap.size = rb := by omega
 have hx3 := hx2.keeps hk3 hne
 have ht3 := hk3.cell_of ht2 hne1
 have hk03 := (Keeps.of_new hb2).trans hk3
 have hxlt : w1.heap.size + 1 < w3.heap.size := block_lt_of_cell hx3.c0
 have HX3 := zz hx3
 have HT3 := zz ht3
 have HR3 := zz hr3
 have HK3 := zz hk03
 have HB2 := zz hb2
 have HB1 := zz hb1
 have HLO := zz (show rb < w.heap.size /\ w.heap.size <= w1.heap.size from ⟨hlo, hsz⟩)
 have HXL := zz hxlt
 have HNE := zz hne
 clear hx2 ht2 hx3 ht3 hr3 hk3 hk03 hb2 hb1 hlo hsz hne1 hne hxlt
 go_wp2_with fail
 refine (gZ HX.out HDD.out w3 HR3.out (HE.out.keeps HK3.out (fun _ e => Nat.le_of_eq e.symm))).mono ?_
 rintro e w4 ⟨r, hev, hsay⟩
 have hev2 := zz (HEV.out r hev)
 cases r with
 | out => exact hsay.elim
 | bad k a =>
  have hsay' : Threw w3 w4 rb k a e := hsay
  obtain ⟨b, rfl⟩ := aB hsay'
  exact ⟨rfl, _, hev2.out, hsay'.own HLO.out.1 HK3.out⟩
 | ok x m =>
  obtain ⟨v, rfl, hx, hr4, hk4⟩ := hsay
  obtain ⟨o, rfl⟩ := aL hx
  have hx4 := HX3.out.keeps hk4 HNE.out
  have HX4 := zz hx4
  have HXV := zz hx
  have HR4 := zz hr4
  have HK4 := zz hk4
  clear hx4 hx hr4 hk4 hev
  have x0 := HX4.out.c0
  have z0 := HX4.out.z 0
  have x5 := HX4.out.c5
  have z5 := HX4.out.z 5
  go_wp2_with fail
  go_ret
  have hks := (((Keeps.refl (fun b => b = w1.heap.size + 1) w4).setCell (S := fun b => b = w1.heap.size + 1) (p := ⟨w1.heap.size + 1, 0, none⟩) (Or.inl rfl) (.int .i64 8)).setCell (S := fun b => b = w1.heap.size + 1) (p := ⟨w1.heap.size + 1, 5, none⟩) (Or.inl rfl) (.pointer o))
  refine ⟨_, hev2.out, _, rfl, ((HX4.out.set0 8).set5 (.pointer o)).ex (show w.heap.size <= w1.heap.size + 1 by have := HLO.out.2; omega) ?_, HR4.out.keeps hks (fun b e => by have := HLO.out; have : b = w1.heap.size + 1 := e; omega), (HK3.out.trans HK4.out).trans' hks (fun b h e => by have := HLO.out; have : b = w1.heap.size + 1 := e; omega)⟩
  exact ExIn.mono (fun b _ e => by have h1 : w3.heap.size <= b := e; have := HK3.out.size; show w.heap.size <= b; omega) _ _ (ExIn.keeps HXV.out hks (fun b e e2 => by have h1 : w3.heap.size <= b := e; have h2 : b = w1.heap.size + 1 := e2; have := HXL.out; omega))
theorem FD {dep : Nat} (hd : dd <= 12) (hX : kY rb tv E dep (dd + 1)) (w : World) (h : RdAt w rb tv E n dep) (hE : TEnv rb E w) (k3 : (pk E n).kind ≠ 3) (k1 : (pk E n).kind ≠ 1) (ht : (pk E n).text = iR) : Calls Tryz.prog 311 #[.pointer (some ⟨rb, 0, none⟩), .int .i64 (dd : Nat)] w fun e w' =>
  ∃ r, Ev (fun f => Tr.one E f dd n) r /\ bL ExV w w' rb tv E dep r e := by
 have HP := zz (lM h)
 have H0 := zz h
 have HE := zz hE
 have hn := d8 ht (by decide)
 have HSK : Hid (∀ W, RdAt W rb tv E n dep -> Calls Tryz.prog 159 #[.pointer (some ⟨rb, 0, none⟩)] W fun e w' => e = .returned (aR (pk E n)) /\ RdAt w' rb tv E (n + 1) dep /\ Keeps (fun b => b = rb) W w') := zz fun W hW => bF W hW hn
 have HX := zz hX
 have HDD := zz (show dd <= 20 by omega)
 have HEV : Hid (∀ r, Ev (fun f => bracketed E f dd (n + 1)) r -> Ev (fun f => Tr.one E f dd n) (r.bind fun x m => .ok (.mk 9 (pk E n).at_ 0 0 [] x .nil .nil) m)) := zz fun r hr => Ev.step (h := fun f => (bracketed E f dd (n + 1)).bind fun x m => .ok (.mk 9 (pk E n).at_ 0 0 [] x .nil .nil) m) (fun f => by rw [fQ, if_neg (by omega), if_neg k3, if_neg k1, ht]; rfl) (Ev.map _ (fun _ _ e => by cases e) hr)
 have hi : (dd : Int) <= 12 := by omega
 have hw : IntKind.i64.wrap ((dd : Int) + 1) = (dd : Int) + 1 := IntWalk.i64_in _ (by omega)
 have i3 : ¬ ((pk E n).kind : Int) = 3 := by omega
 have i1 : ¬ ((pk E n).kind : Int) = 1 := by omega
 unfold aR at HP HSK
 rw [ht] at HP HSK
 obtain ⟨T, hT⟩ : ∃ T, T = mkT iR := ⟨_, rfl⟩
 rw [<- hT] at HP HSK
 have b0 : (T.toList == [40]) = false := by rw [hT, Lib.toList_data]; rfl
 have b1 : (T.toList == [45]) = false := by rw [hT, Lib.toList_data]; rfl
 have b2 : (T.toList == [94]) = false := by rw [hT, Lib.toList_data]; rfl
 have b3 : (T.toList == [33]) = false := by rw [hT, Lib.toList_data]; rfl
 have b4 : (T.toList == [60, 45]) = false := by rw [hT, Lib.toList_data]; rfl
 have b5 : (T.toList == [109, 97, 107, 101]) = false := by rw [hT, Lib.toList_data]; rfl
 have b6 : (T.toList == [108, 101, 110]) = true := by rw [hT, Lib.toList_data]; rfl
 have HT := zz hT
 clear h hE k3 k1 hd ht hn hT hX
 generalize (pk E n).kind = K at *
 obtain ⟨A, hA⟩ : ∃ A, A = (pk E n).at_ := ⟨_, rfl⟩
 rw [<- hA] at *
 clear hA
 have hf := aV
 go_enter Tryz.func311, Tryz.ntmps311
 go_wp2_with (first
  | (go_at_call 153; refine (HP.out _ (by first | exact Below.refl _ _ | assumption)).mono ?_; rintro e w1 ⟨rfl, hb1⟩))
 refine (HSK.out _ (H0.out.fresh (dD hb1 _ _))).mono ?_
 rintro e w3 ⟨rfl, hr3, hk3⟩
 obtain ⟨hx2, ht2⟩ := kH w1 K (pk E n).at_ T 110 64
 have hb2 := dD hb1 (.cells #[.int .i64 K, .string T, .int .i64 (pk E n).at_] 110) (.cells #[.int .i64 0, .int .i64 (pk E n).at_, .int .i64 0, .string (mkT []), .int .i64 0, .pointer none, .pointer none, .slice none 0 0] 64)
 have hlo := H0.out.lt
 have hsz := hb1.size
 have hne : ¬ w1.heap.size + 1 = rb := by omega
 have hne1 : ¬ w1.heap.size = rb := by omega
 have hx3 := hx2.keeps hk3 hne
 have ht3 := hk3.cell_of ht2 hne1
 have hk03 := (Keeps.of_new hb2).trans hk3
 have hxlt : w1.heap.size + 1 < w3.heap.size := block_lt_of_cell hx3.c0
 have HX3 := zz hx3
 have HT3 := zz ht3
 have HR3 := zz hr3
 have HK3 := zz hk03
 have HB2 := zz hb2
 have HB1 := zz hb1
 have HLO := zz (show rb < w.heap.size /\ w.heap.size <= w1.heap.size from ⟨hlo, hsz⟩)
 have HXL := zz hxlt
 have HNE := zz hne
 clear hx2 ht2 hx3 ht3 hr3 hk3 hk03 hb2 hb1 hlo hsz hne1 hne hxlt
 go_wp2_with fail
 refine (gZ HX.out HDD.out w3 HR3.out (HE.out.keeps HK3.out (fun _ e => Nat.le_of_eq e.symm))).mono ?_
 rintro e w4 ⟨r, hev, hsay⟩
 have hev2 := zz (HEV.out r hev)
 cases r with
 | out => exact hsay.elim
 | bad k a =>
  have hsay' : Threw w3 w4 rb k a e := hsay
  obtain ⟨b, rfl⟩ := aB hsay'
  exact ⟨rfl, _, hev2.out, hsay'.own HLO.out.1 HK3.out⟩
 | ok x m =>
  obtain ⟨v, rfl, hx, hr4, hk4⟩ := hsay
  obtain ⟨o, rfl⟩ := aL hx
  have hx4 := HX3.out.keeps hk4 HNE.out
  have HX4 := zz hx4
  have HXV := zz hx
  have HR4 := zz hr4
  have HK4 := zz hk4
  clear hx4 hx hr4 hk4 hev
  have x0 := HX4.out.c0
  have z0 := HX4.out.z 0
  have x5 := HX4.out.c5
  have z5 := HX4.out.z 5
  go_wp2_with fail
  go_ret
  have hks := (((Keeps.refl (fun b => b = w1.heap.size + 1) w4).setCell (S := fun b => b = w1.heap.size + 1) (p := ⟨w1.heap.size + 1, 0, none⟩) (Or.inl rfl) (.int .i64 9)).setCell (S := fun b => b = w1.heap.size + 1) (p := ⟨w1.heap.size + 1, 5, none⟩) (Or.inl rfl) (.pointer o))
  refine ⟨_, hev2.out, _, rfl, ((HX4.out.set0 9).set5 (.pointer o)).ex (show w.heap.size <= w1.heap.size + 1 by have := HLO.out.2; omega) ?_, HR4.out.keeps hks (fun b e => by have := HLO.out; have : b = w1.heap.size + 1 := e; omega), (HK3.out.trans HK4.out).trans' hks (fun b h e => by have := HLO.out; have : b = w1.heap.size + 1 := e; omega)⟩
  exact ExIn.mono (fun b _ e => by have h1 : w3.heap.size <= b := e; have := HK3.out.size; show w.heap.size <= b; omega) _ _ (ExIn.keeps HXV.out hks (fun b e e2 => by have h1 : w3.heap.size <= b := e; have h2 : b = w1.heap.size + 1 := e2; have := HXL.out; omega))
theorem DA {dep : Nat} (hd : dd <= 12) (hO : oH rb tv E dep (dd + 1)) (w : World) (h : RdAt w rb tv E n dep) (hE : TEnv rb E w) (k3 : (pk E n).kind ≠ 3) (k1 : (pk E n).kind ≠ 1) (ht : (pk E n).text = aM) : Calls Tryz.prog 311 #[.pointer (some ⟨rb, 0, none⟩), .int .i64 (dd : Nat)] w fun e w' =>
  ∃ r, Ev (fun f => Tr.one E f dd n) r /\ bL ExV w w' rb tv E dep r e := by
 have HP := zz (lM h)
 have H0 := zz h
 have HE := zz hE
 have hn := d8 ht (by decide)
 have HSK : Hid (∀ W, RdAt W rb tv E n dep -> Calls Tryz.prog 159 #[.pointer (some ⟨rb, 0, none⟩)] W fun e w' => e = .returned (aR (pk E n)) /\ RdAt w' rb tv E (n + 1) dep /\ Keeps (fun b => b = rb) W w') := zz fun W hW => bF W hW hn
 have HO := zz hO
 have HEV : Hid (∀ r, Ev (fun f => Tr.one E f (dd + 1) (n + 1)) r -> Ev (fun f => Tr.one E f dd n) (r.bind fun x m => .ok (.mk 10 (pk E n).at_ 0 0 [] x .nil .nil) m)) := zz fun r hr => Ev.step (h := fun f => (Tr.one E f (dd + 1) (n + 1)).bind fun x m => .ok (.mk 10 (pk E n).at_ 0 0 [] x .nil .nil) m) (fun f => by rw [fQ, if_neg (by omega), if_neg k3, if_neg k1, ht]; rfl) (Ev.map _ (fun _ _ e => by cases e) hr)
 have hi : (dd : Int) <= 12 := by omega
 have hw : IntKind.i64.wrap ((dd : Int) + 1) = (dd : Int) + 1 := IntWalk.i64_in _ (by omega)
 have i3 : ¬ ((pk E n).kind : Int) = 3 := by omega
 have i1 : ¬ ((pk E n).kind : Int) = 1 := by omega
 unfold aR at HP HSK
 rw [ht] at HP HSK
 obtain ⟨T, hT⟩ : ∃ T, T = mkT aM := ⟨_, rfl⟩
 rw [<- hT] at HP HSK
 have b0 : (T.toList == [40]) = false := by rw [hT, Lib.toList_data]; rfl
 have b1 : (T.toList == [45]) = false := by rw [hT, Lib.toList_data]; rfl
 have b2 : (T.toList == [94]) = false := by rw [hT, Lib.toList_data]; rfl
 have b3 : (T.toList == [33]) = false := by rw [hT, Lib.toList_data]; rfl
 have b4 : (T.toList == [60, 45]) = true := by rw [hT, Lib.toList_data]; rfl
 have HT := zz hT
 clear h hE k3 k1 hd ht hn hT hO
 generalize (pk E n).kind = K at *
 obtain ⟨A, hA⟩ : ∃ A, A = (pk E n).at_ := ⟨_, rfl⟩
 rw [<- hA] at *
 clear hA
 have hf := aV
 go_enter Tryz.func311, Tryz.ntmps311
 go_wp2_with (first
  | (go_at_call 153; refine (HP.out _ (by first | exact Below.refl _ _ | assumption)).mono ?_; rintro e w1 ⟨rfl, hb1⟩))
 refine (HSK.out _ (H0.out.fresh (dD hb1 _ _))).mono ?_
 rintro e w3 ⟨rfl, hr3, hk3⟩
 obtain ⟨hx2, ht2⟩ := kH w1 K (pk E n).at_ T 110 64
 have hb2 := dD hb1 (.cells #[.int .i64 K, .string T, .int .i64 (pk E n).at_] 110) (.cells #[.int .i64 0, .int .i64 (pk E n).at_, .int .i64 0, .string (mkT []), .int .i64 0, .pointer none, .pointer none, .slice none 0 0] 64)
 have hlo := H0.out.lt
 have hsz := hb1.size
 have hne : ¬ w1.heap.size + 1 = rb := by omega
 have hne1 : ¬ w1.heap.size = rb := by omega
 have hx3 := hx2.keeps hk3 hne
 have ht3 := hk3.cell_of ht2 hne1
 have hk03 := (Keeps.of_new hb2).trans hk3
 have hxlt : w1.heap.size + 1 < w3.heap.size := block_lt_of_cell hx3.c0
 have HX3 := zz hx3
 have HT3 := zz ht3
 have HR3 := zz hr3
 have HK3 := zz hk03
 have HB2 := zz hb2
 have HB1 := zz hb1
 have HLO := zz (show rb < w.heap.size /\ w.heap.size <= w1.heap.size from ⟨hlo, hsz⟩)
 have HXL := zz hxlt
 have HNE := zz hne
 clear hx2 ht2 hx3 ht3 hr3 hk3 hk03 hb2 hb1 hlo hsz hne1 hne hxlt
 have HON : Hid (Calls Tryz.prog 311 #[.pointer (some ⟨rb, 0, none⟩), .int .i64 ((dd : Int) + 1)] w3 fun e w' => ∃ r, Ev (fun f => Tr.one E f (dd + 1) (n + 1)) r /\ bL ExV w3 w' rb tv E dep r e) := zz (by have h := HO.out (n + 1) w3 HR3.out (HE.out.keeps HK3.out (fun _ e => Nat.le_of_eq e.symm)); rw [Int.natCast_add] at h; exact h)
 go_wp2_with fail
 refine (HON.out).mono ?_
 rintro e w4 ⟨r, hev, hsay⟩
 have hev2 := zz (HEV.out r hev)
 cases r with
 | out => exact hsay.elim
 | bad k a =>
  have hsay' : Threw w3 w4 rb k a e := hsay
  obtain ⟨b, rfl⟩ := aB hsay'
  exact ⟨rfl, _, hev2.out, hsay'.own HLO.out.1 HK3.out⟩
 | ok x m =>
  obtain ⟨v, rfl, hx, hr4, hk4⟩ := hsay
  obtain ⟨o, rfl⟩ := aL hx
  have hx4 := HX3.out.keeps hk4 HNE.out
  have HX4 := zz hx4
  have HXV := zz hx
  have HR4 := zz hr4
  have HK4 := zz hk4
  clear hx4 hx hr4 hk4 hev
  have x0 := HX4.out.c0
  have z0 := HX4.out.z 0
  have x5 := HX4.out.c5
  have z5 := HX4.out.z 5
  go_wp2_with fail
  go_ret
  have hks := (((Keeps.refl (fun b => b = w1.heap.size + 1) w4).setCell (S := fun b => b = w1.heap.size + 1) (p := ⟨w1.heap.size + 1, 0, none⟩) (Or.inl rfl) (.int .i64 10)).setCell (S := fun b => b = w1.heap.size + 1) (p := ⟨w1.heap.size + 1, 5, none⟩) (Or.inl rfl) (.pointer o))
  refine ⟨_, hev2.out, _, rfl, ((HX4.out.set0 10).set5 (.pointer o)).ex (show w.heap.size <= w1.heap.size + 1 by have := HLO.out.2; omega) ?_, HR4.out.keeps hks (fun b e => by have := HLO.out; have : b = w1.heap.size + 1 := e; omega), (HK3.out.trans HK4.out).trans' hks (fun b h e => by have := HLO.out; have : b = w1.heap.size + 1 := e; omega)⟩
  exact ExIn.mono (fun b _ e => by have h1 : w3.heap.size <= b := e; have := HK3.out.size; show w.heap.size <= b; omega) _ _ (ExIn.keeps HXV.out hks (fun b e e2 => by have h1 : w3.heap.size <= b := e; have h2 : b = w1.heap.size + 1 := e2; have := HXL.out; omega))
theorem FE {dep : Nat} (hd : dd <= 12) (hO : oH rb tv E dep (dd + 1)) (w : World) (h : RdAt w rb tv E n dep) (hE : TEnv rb E w) (k3 : (pk E n).kind ≠ 3) (k1 : (pk E n).kind ≠ 1) (ht : (pk E n).text = [45]) : Calls Tryz.prog 311 #[.pointer (some ⟨rb, 0, none⟩), .int .i64 (dd : Nat)] w fun e w' =>
  ∃ r, Ev (fun f => Tr.one E f dd n) r /\ bL ExV w w' rb tv E dep r e := by
 have HP := zz (lM h)
 have H0 := zz h
 have HE := zz hE
 have hn := d8 ht (by decide)
 have HSK : Hid (∀ W, RdAt W rb tv E n dep -> Calls Tryz.prog 159 #[.pointer (some ⟨rb, 0, none⟩)] W fun e w' => e = .returned (aR (pk E n)) /\ RdAt w' rb tv E (n + 1) dep /\ Keeps (fun b => b = rb) W w') := zz fun W hW => bF W hW hn
 have HO := zz hO
 have HEV : Hid (∀ r, Ev (fun f => Tr.one E f (dd + 1) (n + 1)) r -> Ev (fun f => Tr.one E f dd n) (r.bind fun x m => .ok (.mk 6 (pk E n).at_ 0 (jP [45]) [] x .nil .nil) m)) := zz fun r hr => Ev.step (h := fun f => (Tr.one E f (dd + 1) (n + 1)).bind fun x m => .ok (.mk 6 (pk E n).at_ 0 (jP [45]) [] x .nil .nil) m) (fun f => by rw [fQ, if_neg (by omega), if_neg k3, if_neg k1, ht]; rfl) (Ev.map _ (fun _ _ e => by cases e) hr)
 have hi : (dd : Int) <= 12 := by omega
 have hw : IntKind.i64.wrap ((dd : Int) + 1) = (dd : Int) + 1 := IntWalk.i64_in _ (by omega)
 have i3 : ¬ ((pk E n).kind : Int) = 3 := by omega
 have i1 : ¬ ((pk E n).kind : Int) = 1 := by omega
 unfold aR at HP HSK
 rw [ht] at HP HSK
 obtain ⟨T, hT⟩ : ∃ T, T = mkT [45] := ⟨_, rfl⟩
 rw [<- hT] at HP HSK
 have b0 : (T.toList == [40]) = false := by rw [hT, Lib.toList_data]; rfl
 have b1 : (T.toList == [45]) = true := by rw [hT, Lib.toList_data]; rfl
 have HT := zz hT
 clear h hE k3 k1 hd ht hn hT hO
 generalize (pk E n).kind = K at *
 obtain ⟨A, hA⟩ : ∃ A, A = (pk E n).at_ := ⟨_, rfl⟩
 rw [<- hA] at *
 clear hA
 have hf := aV
 go_enter Tryz.func311, Tryz.ntmps311
 go_wp2_with (first
  | (go_at_call 153; refine (HP.out _ (by first | exact Below.refl _ _ | assumption)).mono ?_; rintro e w1 ⟨rfl, hb1⟩))
 refine (HSK.out _ (H0.out.fresh (dD hb1 _ _))).mono ?_
 rintro e w3 ⟨rfl, hr3, hk3⟩
 obtain ⟨hx2, ht2⟩ := kH w1 K (pk E n).at_ T 110 64
 have hb2 := dD hb1 (.cells #[.int .i64 K, .string T, .int .i64 (pk E n).at_] 110) (.cells #[.int .i64 0, .int .i64 (pk E n).at_, .int .i64 0, .string (mkT []), .int .i64 0, .pointer none, .pointer none, .slice none 0 0] 64)
 have hlo := H0.out.lt
 have hsz := hb1.size
 have hne : ¬ w1.heap.size + 1 = rb := by omega
 have hne1 : ¬ w1.heap.size = rb := by omega
 have hx3 := hx2.keeps hk3 hne
 have ht3 := hk3.cell_of ht2 hne1
 have hk03 := (Keeps.of_new hb2).trans hk3
 have hxlt : w1.heap.size + 1 < w3.heap.size := block_lt_of_cell hx3.c0
 have HX3 := zz hx3
 have HT3 := zz ht3
 have HR3 := zz hr3
 have HK3 := zz hk03
 have HB2 := zz hb2
 have HB1 := zz hb1
 have HLO := zz (show rb < w.heap.size /\ w.heap.size <= w1.heap.size from ⟨hlo, hsz⟩)
 have HXL := zz hxlt
 have HNE := zz hne
 clear hx2 ht2 hx3 ht3 hr3 hk3 hk03 hb2 hb1 hlo hsz hne1 hne hxlt
 have HON : Hid (Calls Tryz.prog 311 #[.pointer (some ⟨rb, 0, none⟩), .int .i64 ((dd : Int) + 1)] w3 fun e w' => ∃ r, Ev (fun f => Tr.one E f (dd + 1) (n + 1)) r /\ bL ExV w3 w' rb tv E dep r e) := zz (by have h := HO.out (n + 1) w3 HR3.out (HE.out.keeps HK3.out (fun _ e => Nat.le_of_eq e.symm)); rw [Int.natCast_add] at h; exact h)
 have HSG := zz (tZ T w3 (HE.out.keeps HK3.out (fun _ e => Nat.le_of_eq e.symm)).signs)
 have ht3 := HT3.out
 have hop : g8 T.toList 3 17 = jP [45] := by rw [HT.out, Lib.toList_data]; rfl
 rw [hop] at HSG
 clear hop
 go_wp2_with (go_at_call 318; refine HSG.out.mono ?_; rintro e w9 ⟨rfl, rfl⟩)
 refine (HON.out).mono ?_
 rintro e w4 ⟨r, hev, hsay⟩
 have hev2 := zz (HEV.out r hev)
 cases r with
 | out => exact hsay.elim
 | bad k a =>
  have hsay' : Threw w3 w4 rb k a e := hsay
  obtain ⟨b, rfl⟩ := aB hsay'
  exact ⟨rfl, _, hev2.out, hsay'.own HLO.out.1 HK3.out⟩
 | ok x m =>
  obtain ⟨v, rfl, hx, hr4, hk4⟩ := hsay
  obtain ⟨o, rfl⟩ := aL hx
  have hx4 := HX3.out.keeps hk4 HNE.out
  have HX4 := zz hx4
  have HXV := zz hx
  have HR4 := zz hr4
  have HK4 := zz hk4
  clear hx4 hx hr4 hk4 hev
  have x0 := HX4.out.c0
  have z0 := HX4.out.z 0
  have x4 := HX4.out.c4
  have z4 := HX4.out.z 4
  have x5 := HX4.out.c5
  have z5 := HX4.out.z 5
  go_wp2_with fail
  go_ret
  have hks := ((((Keeps.refl (fun b => b = w1.heap.size + 1) w4).setCell (S := fun b => b = w1.heap.size + 1) (p := ⟨w1.heap.size + 1, 0, none⟩) (Or.inl rfl) (.int .i64 6)).setCell (S := fun b => b = w1.heap.size + 1) (p := ⟨w1.heap.size + 1, 4, none⟩) (Or.inl rfl) (.int .i64 ((jP [45]) : Nat))).setCell (S := fun b => b = w1.heap.size + 1) (p := ⟨w1.heap.size + 1, 5, none⟩) (Or.inl rfl) (.pointer o))
  refine ⟨_, hev2.out, _, rfl, (((HX4.out.set0 6).set4 (jP [45])).set5 (.pointer o)).ex (show w.heap.size <= w1.heap.size + 1 by have := HLO.out.2; omega) ?_, HR4.out.keeps hks (fun b e => by have := HLO.out; have : b = w1.heap.size + 1 := e; omega), (HK3.out.trans HK4.out).trans' hks (fun b h e => by have := HLO.out; have : b = w1.heap.size + 1 := e; omega)⟩
  exact ExIn.mono (fun b _ e => by have h1 : w3.heap.size <= b := e; have := HK3.out.size; show w.heap.size <= b; omega) _ _ (ExIn.keeps HXV.out hks (fun b e e2 => by have h1 : w3.heap.size <= b := e; have h2 : b = w1.heap.size + 1 := e2; have := HXL.out; omega))
theorem FF {dep : Nat} (hd : dd <= 12) (hO : oH rb tv E dep (dd + 1)) (w : World) (h : RdAt w rb tv E n dep) (hE : TEnv rb E w) (k3 : (pk E n).kind ≠ 3) (k1 : (pk E n).kind ≠ 1) (ht : (pk E n).text = [94]) : Calls Tryz.prog 311 #[.pointer (some ⟨rb, 0, none⟩), .int .i64 (dd : Nat)] w fun e w' =>
  ∃ r, Ev (fun f => Tr.one E f dd n) r /\ bL ExV w w' rb tv E dep r e := by
 have HP := zz (lM h)
 have H0 := zz h
 have HE := zz hE
 have hn := d8 ht (by decide)
 have HSK : Hid (∀ W, RdAt W rb tv E n dep -> Calls Tryz.prog 159 #[.pointer (some ⟨rb, 0, none⟩)] W fun e w' => e = .returned (aR (pk E n)) /\ RdAt w' rb tv E (n + 1) dep /\ Keeps (fun b => b = rb) W w') := zz fun W hW => bF W hW hn
 have HO := zz hO
 have HEV : Hid (∀ r, Ev (fun f => Tr.one E f (dd + 1) (n + 1)) r -> Ev (fun f => Tr.one E f dd n) (r.bind fun x m => .ok (.mk 6 (pk E n).at_ 0 (jP [94]) [] x .nil .nil) m)) := zz fun r hr => Ev.step (h := fun f => (Tr.one E f (dd + 1) (n + 1)).bind fun x m => .ok (.mk 6 (pk E n).at_ 0 (jP [94]) [] x .nil .nil) m) (fun f => by rw [fQ, if_neg (by omega), if_neg k3, if_neg k1, ht]; rfl) (Ev.map _ (fun _ _ e => by cases e) hr)
 have hi : (dd : Int) <= 12 := by omega
 have hw : IntKind.i64.wrap ((dd : Int) + 1) = (dd : Int) + 1 := IntWalk.i64_in _ (by omega)
 have i3 : ¬ ((pk E n).kind : Int) = 3 := by omega
 have i1 : ¬ ((pk E n).kind : Int) = 1 := by omega
 unfold aR at HP HSK
 rw [ht] at HP HSK
 obtain ⟨T, hT⟩ : ∃ T, T = mkT [94] := ⟨_, rfl⟩
 rw [<- hT] at HP HSK
 have b0 : (T.toList == [40]) = false := by rw [hT, Lib.toList_data]; rfl
 have b1 : (T.toList == [45]) = false := by rw [hT, Lib.toList_data]; rfl
 have b2 : (T.toList == [94]) = true := by rw [hT, Lib.toList_data]; rfl
 have HT := zz hT
 clear h hE k3 k1 hd ht hn hT hO
 generalize (pk E n).kind = K at *
 obtain ⟨A, hA⟩ : ∃ A, A = (pk E n).at_ := ⟨_, rfl⟩
 rw [<- hA] at *
 clear hA
 have hf := aV
 go_enter Tryz.func311, Tryz.ntmps311
 go_wp2_with (first
  | (go_at_call 153; refine (HP.out _ (by first | exact Below.refl _ _ | assumption)).mono ?_; rintro e w1 ⟨rfl, hb1⟩))
 refine (HSK.out _ (H0.out.fresh (dD hb1 _ _))).mono ?_
 rintro e w3 ⟨rfl, hr3, hk3⟩
 obtain ⟨hx2, ht2⟩ := kH w1 K (pk E n).at_ T 110 64
 have hb2 := dD hb1 (.cells #[.int .i64 K, .string T, .int .i64 (pk E n).at_] 110) (.cells #[.int .i64 0, .int .i64 (pk E n).at_, .int .i64 0, .string (mkT []), .int .i64 0, .pointer none, .pointer none, .slice none 0 0] 64)
 have hlo := H0.out.lt
 have hsz := hb1.size
 have hne : ¬ w1.heap.size + 1 = rb := by omega
 have hne1 : ¬ w1.heap.size = rb := by omega
 have hx3 := hx2.keeps hk3 hne
 have ht3 := hk3.cell_of ht2 hne1
 have hk03 := (Keeps.of_new hb2).trans hk3
 have hxlt : w1.heap.size + 1 < w3.heap.size := block_lt_of_cell hx3.c0
 have HX3 := zz hx3
 have HT3 := zz ht3
 have HR3 := zz hr3
 have HK3 := zz hk03
 have HB2 := zz hb2
 have HB1 := zz hb1
 have HLO := zz (show rb < w.heap.size /\ w.heap.size <= w1.heap.size from ⟨hlo, hsz⟩)
 have HXL := zz hxlt
 have HNE := zz hne
 clear hx2 ht2 hx3 ht3 hr3 hk3 hk03 hb2 hb1 hlo hsz hne1 hne hxlt
 have HON : Hid (Calls Tryz.prog 311 #[.pointer (some ⟨rb, 0, none⟩), .int .i64 ((dd : Int) + 1)] w3 fun e w' => ∃ r, Ev (fun f => Tr.one E f (dd + 1) (n + 1)) r /\ bL ExV w3 w' rb tv E dep r e) := zz (by have h := HO.out (n + 1) w3 HR3.out (HE.out.keeps HK3.out (fun _ e => Nat.le_of_eq e.symm)); rw [Int.natCast_add] at h; exact h)
 have HSG := zz (tZ T w3 (HE.out.keeps HK3.out (fun _ e => Nat.le_of_eq e.symm)).signs)
 have ht3 := HT3.out
 have hop : g8 T.toList 3 17 = jP [94] := by rw [HT.out, Lib.toList_data]; rfl
 rw [hop] at HSG
 clear hop
 go_wp2_with (go_at_call 318; refine HSG.out.mono ?_; rintro e w9 ⟨rfl, rfl⟩)
 refine (HON.out).mono ?_
 rintro e w4 ⟨r, hev, hsay⟩
 have hev2 := zz (HEV.out r hev)
 cases r with
 | out => exact hsay.elim
 | bad k a =>
  have hsay' : Threw w3 w4 rb k a e := hsay
  obtain ⟨b, rfl⟩ := aB hsay'
  exact ⟨rfl, _, hev2.out, hsay'.own HLO.out.1 HK3.out⟩
 | ok x m =>
  obtain ⟨v, rfl, hx, hr4, hk4⟩ := hsay
  obtain ⟨o, rfl⟩ := aL hx
  have hx4 := HX3.out.keeps hk4 HNE.out
  have HX4 := zz hx4
  have HXV := zz hx
  have HR4 := zz hr4
  have HK4 := zz hk4
  clear hx4 hx hr4 hk4 hev
  have x0 := HX4.out.c0
  have z0 := HX4.out.z 0
  have x4 := HX4.out.c4
  have z4 := HX4.out.z 4
  have x5 := HX4.out.c5
  have z5 := HX4.out.z 5
  go_wp2_with fail
  go_ret
  have hks := ((((Keeps.refl (fun b => b = w1.heap.size + 1) w4).setCell (S := fun b => b = w1.heap.size + 1) (p := ⟨w1.heap.size + 1, 0, none⟩) (Or.inl rfl) (.int .i64 6)).setCell (S := fun b => b = w1.heap.size + 1) (p := ⟨w1.heap.size + 1, 4, none⟩) (Or.inl rfl) (.int .i64 ((jP [94]) : Nat))).setCell (S := fun b => b = w1.heap.size + 1) (p := ⟨w1.heap.size + 1, 5, none⟩) (Or.inl rfl) (.pointer o))
  refine ⟨_, hev2.out, _, rfl, (((HX4.out.set0 6).set4 (jP [94])).set5 (.pointer o)).ex (show w.heap.size <= w1.heap.size + 1 by have := HLO.out.2; omega) ?_, HR4.out.keeps hks (fun b e => by have := HLO.out; have : b = w1.heap.size + 1 := e; omega), (HK3.out.trans HK4.out).trans' hks (fun b h e => by have := HLO.out; have : b = w1.heap.size + 1 := e; omega)⟩
  exact ExIn.mono (fun b _ e => by have h1 : w3.heap.size <= b := e; have := HK3.out.size; show w.heap.size <= b; omega) _ _ (ExIn.keeps HXV.out hks (fun b e e2 => by have h1 : w3.heap.size <= b := e; have h2 : b = w1.heap.size + 1 := e2; have := HXL.out; omega))
theorem FG {dep : Nat} (hd : dd <= 12) (hO : oH rb tv E dep (dd + 1)) (w : World) (h : RdAt w rb tv E n dep) (hE : TEnv rb E w) (k3 : (pk E n).kind ≠ 3) (k1 : (pk E n).kind ≠ 1) (ht : (pk E n).text = [33]) : Calls Tryz.prog 311 #[.pointer (some ⟨rb, 0, none⟩), .int .i64 (dd : Nat)] w fun e w' =>
  ∃ r, Ev (fun f => Tr.one E f dd n) r /\ bL ExV w w' rb tv E dep r e := by
 have HP := zz (lM h)
 have H0 := zz h
 have HE := zz hE
 have hn := d8 ht (by decide)
 have HSK : Hid (∀ W, RdAt W rb tv E n dep -> Calls Tryz.prog 159 #[.pointer (some ⟨rb, 0, none⟩)] W fun e w' => e = .returned (aR (pk E n)) /\ RdAt w' rb tv E (n + 1) dep /\ Keeps (fun b => b = rb) W w') := zz fun W hW => bF W hW hn
 have HO := zz hO
 have HEV : Hid (∀ r, Ev (fun f => Tr.one E f (dd + 1) (n + 1)) r -> Ev (fun f => Tr.one E f dd n) (r.bind fun x m => .ok (.mk 6 (pk E n).at_ 0 (jP [33]) [] x .nil .nil) m)) := zz fun r hr => Ev.step (h := fun f => (Tr.one E f (dd + 1) (n + 1)).bind fun x m => .ok (.mk 6 (pk E n).at_ 0 (jP [33]) [] x .nil .nil) m) (fun f => by rw [fQ, if_neg (by omega), if_neg k3, if_neg k1, ht]; rfl) (Ev.map _ (fun _ _ e => by cases e) hr)
 have hi : (dd : Int) <= 12 := by omega
 have hw : IntKind.i64.wrap ((dd : Int) + 1) = (dd : Int) + 1 := IntWalk.i64_in _ (by omega)
 have i3 : ¬ ((pk E n).kind : Int) = 3 := by omega
 have i1 : ¬ ((pk E n).kind : Int) = 1 := by omega
 unfold aR at HP HSK
 rw [ht] at HP HSK
 obtain ⟨T, hT⟩ : ∃ T, T = mkT [33] := ⟨_, rfl⟩
 rw [<- hT] at HP HSK
 have b0 : (T.toList == [40]) = false := by rw [hT, Lib.toList_data]; rfl
 have b1 : (T.toList == [45]) = false := by rw [hT, Lib.toList_data]; rfl
 have b2 : (T.toList == [94]) = false := by rw [hT, Lib.toList_data]; rfl
 have b3 : (T.toList == [33]) = true := by rw [hT, Lib.toList_data]; rfl
 have HT := zz hT
 clear h hE k3 k1 hd ht hn hT hO
 generalize (pk E n).kind = K at *
 obtain ⟨A, hA⟩ : ∃ A, A = (pk E n).at_ := ⟨_, rfl⟩
 rw [<- hA] at *
 clear hA
 have hf := aV
 go_enter Tryz.func311, Tryz.ntmps311
 go_wp2_with (first
  | (go_at_call 153; refine (HP.out _ (by first | exact Below.refl _ _ | assumption)).mono ?_; rintro e w1 ⟨rfl, hb1⟩))
 refine (HSK.out _ (H0.out.fresh (dD hb1 _ _))).mono ?_
 rintro e w3 ⟨rfl, hr3, hk3⟩
 obtain ⟨hx2, ht2⟩ := kH w1 K (pk E n).at_ T 110 64
 have hb2 := dD hb1 (.cells #[.int .i64 K, .string T, .int .i64 (pk E n).at_] 110) (.cells #[.int .i64 0, .int .i64 (pk E n).at_, .int .i64 0, .string (mkT []), .int .i64 0, .pointer none, .pointer none, .slice none 0 0] 64)
 have hlo := H0.out.lt
 have hsz := hb1.size
 have hne : ¬ w1.heap.size + 1 = rb := by omega
 have hne1 : ¬ w1.heap.size = rb := by omega
 have hx3 := hx2.keeps hk3 hne
 have ht3 := hk3.cell_of ht2 hne1
 have hk03 := (Keeps.of_new hb2).trans hk3
 have hxlt : w1.heap.size + 1 < w3.heap.size := block_lt_of_cell hx3.c0
 have HX3 := zz hx3
 have HT3 := zz ht3
 have HR3 := zz hr3
 have HK3 := zz hk03
 have HB2 := zz hb2
 have HB1 := zz hb1
 have HLO := zz (show rb < w.heap.size /\ w.heap.size <= w1.heap.size from ⟨hlo, hsz⟩)
 have HXL := zz hxlt
 have HNE := zz hne
 clear hx2 ht2 hx3 ht3 hr3 hk3 hk03 hb2 hb1 hlo hsz hne1 hne hxlt
 have HON : Hid (Calls Tryz.prog 311 #[.pointer (some ⟨rb, 0, none⟩), .int .i64 ((dd : Int) + 1)] w3 fun e w' => ∃ r, Ev (fun f => Tr.one E f (dd + 1) (n + 1)) r /\ bL ExV w3 w' rb tv E dep r e) := zz (by have h := HO.out (n + 1) w3 HR3.out (HE.out.keeps HK3.out (fun _ e => Nat.le_of_eq e.symm)); rw [Int.natCast_add] at h; exact h)
 have HSG := zz (tZ T w3 (HE.out.keeps HK3.out (fun _ e => Nat.le_of_eq e.symm)).signs)
 have ht3 := HT3.out
 have hop : g8 T.toList 3 17 = jP [33] := by rw [HT.out, Lib.toList_data]; rfl
 rw [hop] at HSG
 clear hop
 go_wp2_with (go_at_call 318; refine HSG.out.mono ?_; rintro e w9 ⟨rfl, rfl⟩)
 refine (HON.out).mono ?_
 rintro e w4 ⟨r, hev, hsay⟩
 have hev2 := zz (HEV.out r hev)
 cases r with
 | out => exact hsay.elim
 | bad k a =>
  have hsay' : Threw w3 w4 rb k a e := hsay
  obtain ⟨b, rfl⟩ := aB hsay'
  exact ⟨rfl, _, hev2.out, hsay'.own HLO.out.1 HK3.out⟩
 | ok x m =>
  obtain ⟨v, rfl, hx, hr4, hk4⟩ := hsay
  obtain ⟨o, rfl⟩ := aL hx
  have hx4 := HX3.out.keeps hk4 HNE.out
  have HX4 := zz hx4
  have HXV := zz hx
  have HR4 := zz hr4
  have HK4 := zz hk4
  clear hx4 hx hr4 hk4 hev
  have x0 := HX4.out.c0
  have z0 := HX4.out.z 0
  have x4 := HX4.out.c4
  have z4 := HX4.out.z 4
  have x5 := HX4.out.c5
  have z5 := HX4.out.z 5
  go_wp2_with fail
  go_ret
  have hks := ((((Keeps.refl (fun b => b = w1.heap.size + 1) w4).setCell (S := fun b => b = w1.heap.size + 1) (p := ⟨w1.heap.size + 1, 0, none⟩) (Or.inl rfl) (.int .i64 6)).setCell (S := fun b => b = w1.heap.size + 1) (p := ⟨w1.heap.size + 1, 4, none⟩) (Or.inl rfl) (.int .i64 ((jP [33]) : Nat))).setCell (S := fun b => b = w1.heap.size + 1) (p := ⟨w1.heap.size + 1, 5, none⟩) (Or.inl rfl) (.pointer o))
  refine ⟨_, hev2.out, _, rfl, (((HX4.out.set0 6).set4 (jP [33])).set5 (.pointer o)).ex (show w.heap.size <= w1.heap.size + 1 by have := HLO.out.2; omega) ?_, HR4.out.keeps hks (fun b e => by have := HLO.out; have : b = w1.heap.size + 1 := e; omega), (HK3.out.trans HK4.out).trans' hks (fun b h e => by have := HLO.out; have : b = w1.heap.size + 1 := e; omega)⟩
  exact ExIn.mono (fun b _ e => by have h1 : w3.heap.size <= b := e; have := HK3.out.size; show w.heap.size <= b; omega) _ _ (ExIn.keeps HXV.out hks (fun b e e2 => by have h1 : w3.heap.size <= b := e; have h2 : b = w1.heap.size + 1 := e2; have := HXL.out; omega))
theorem yS {dep : Nat} (hd : dd <= 12) (hX : kY rb tv E dep (dd + 1)) (w : World) (h : RdAt w rb tv E n dep) (hE : TEnv rb E w) (k3 : (pk E n).kind ≠ 3) (k1 : (pk E n).kind ≠ 1) (ht : (pk E n).text = tLp) : Calls Tryz.prog 311 #[.pointer (some ⟨rb, 0, none⟩), .int .i64 (dd : Nat)] w fun e w' =>
  ∃ r, Ev (fun f => Tr.one E f dd n) r /\ bL ExV w w' rb tv E dep r e := by
 have HP := zz (lM h)
 have H0 := zz h
 have HE := zz hE
 have hn := d8 ht (by decide)
 have HSK : Hid (∀ W, RdAt W rb tv E n dep -> Calls Tryz.prog 159 #[.pointer (some ⟨rb, 0, none⟩)] W fun e w' => e = .returned (aR (pk E n)) /\ RdAt w' rb tv E (n + 1) dep /\ Keeps (fun b => b = rb) W w') := zz fun W hW => bF W hW hn
 have HX := zz hX
 have HDD := zz (show dd <= 20 by omega)
 have HEV : Hid (∀ r, Ev (fun f => bracketed E f dd n) r -> Ev (fun f => Tr.one E f dd n) r) := zz fun r hr => Ev.step (fun f => by rw [fQ, if_neg (by omega), if_neg k3, if_neg k1, if_pos ht]) hr
 have hi : (dd : Int) <= 12 := by omega
 have hw : IntKind.i64.wrap ((dd : Int) + 1) = (dd : Int) + 1 := IntWalk.i64_in _ (by omega)
 have i3 : ¬ ((pk E n).kind : Int) = 3 := by omega
 have i1 : ¬ ((pk E n).kind : Int) = 1 := by omega
 unfold aR at HP HSK
 rw [ht] at HP HSK
 obtain ⟨T, hT⟩ : ∃ T, T = mkT tLp := ⟨_, rfl⟩
 rw [<- hT] at HP HSK
 have b0 : (T.toList == [40]) = true := by rw [hT, Lib.toList_data]; rfl
 have HT := zz hT
 clear h hE k3 k1 hd ht hn hT hX HSK
 generalize (pk E n).kind = K at *
 obtain ⟨A, hA⟩ : ∃ A, A = (pk E n).at_ := ⟨_, rfl⟩
 rw [<- hA] at *
 clear hA
 have hf := aV
 go_enter Tryz.func311, Tryz.ntmps311
 go_wp2_with (first
  | (go_at_call 153; refine (HP.out _ (by first | exact Below.refl _ _ | assumption)).mono ?_; rintro e w1 ⟨rfl, hb1⟩))
 have hb2 := dD hb1 (.cells #[.int .i64 K, .string T, .int .i64 (pk E n).at_] 110) (.cells #[.int .i64 0, .int .i64 (pk E n).at_, .int .i64 0, .string (mkT []), .int .i64 0, .pointer none, .pointer none, .slice none 0 0] 64)
 have HB2 := zz hb2
 clear hb2
 refine (gZ HX.out HDD.out _ (H0.out.fresh HB2.out) (HE.out.fresh HB2.out)).mono ?_
 rintro e w4 ⟨r, hev, hsay⟩
 have hev2 := zz (HEV.out r hev)
 cases r with
 | out => exact hsay.elim
 | bad k a =>
  have hsay' : Threw _ w4 rb k a e := hsay
  obtain ⟨b, rfl⟩ := aB hsay'
  exact ⟨rfl, _, hev2.out, hsay'.own H0.out.lt (Keeps.of_new HB2.out)⟩
 | ok x m =>
  obtain ⟨v, rfl, hx, hr4, hk4⟩ := hsay
  go_wp2_with fail
  go_ret
  exact ⟨_, hev2.out, _, rfl, hx.of HB2.out.size, hr4, (Keeps.of_new HB2.out).trans hk4⟩
theorem FH {dep : Nat} (hd : dd <= 12) (w : World) (h : RdAt w rb tv E n dep) (k3 : (pk E n).kind ≠ 3) (k1 : (pk E n).kind ≠ 1) (q0 : (pk E n).text ≠ tLp) (q1 : (pk E n).text ≠ [45]) (q2 : (pk E n).text ≠ [94]) (q3 : (pk E n).text ≠ [33]) (q4 : (pk E n).text ≠ aM) (q5 : (pk E n).text ≠ dZ) (q6 : (pk E n).text ≠ iR) (q7 : (pk E n).text ≠ eY) (q8 : (pk E n).text ≠ cW) (q9 : (pk E n).text ≠ iS) : Calls Tryz.prog 311 #[.pointer (some ⟨rb, 0, none⟩), .int .i64 (dd : Nat)] w fun e w' =>
  ∃ r, Ev (fun f => Tr.one E f dd n) r /\ bL ExV w w' rb tv E dep r e := by
 have HP := zz (lM h)
 have H0 := zz h
 have HEV : Hid (Ev (fun f => Tr.one E f dd n) (.bad 3 (pk E n).at_)) := zz (Ev.now (fun e => by cases e) fun f => by
  rw [fQ, if_neg (by omega), if_neg k3, if_neg k1, if_neg q0, if_neg (fun e => by rcases e with e | e | e <;> contradiction), if_neg q4, if_neg q5, if_neg q6, if_neg q7, if_neg q8, if_neg q9]; rfl)
 have hi : (dd : Int) <= 12 := by omega
 have i3 : ¬ ((pk E n).kind : Int) = 3 := by omega
 have i1 : ¬ ((pk E n).kind : Int) = 1 := by omega
 unfold aR at HP
 obtain ⟨T, hT⟩ : ∃ T, T = mkT (pk E n).text := ⟨_, rfl⟩
 rw [<- hT] at HP
 have b0 : (T.toList == [40]) = false := by rw [hT, bP]; exact decide_eq_false q0
 have b1 : (T.toList == [45]) = false := by rw [hT, bP]; exact decide_eq_false q1
 have b2 : (T.toList == [94]) = false := by rw [hT, bP]; exact decide_eq_false q2
 have b3 : (T.toList == [33]) = false := by rw [hT, bP]; exact decide_eq_false q3
 have b4 : (T.toList == [60, 45]) = false := by rw [hT, bP]; exact decide_eq_false q4
 have b5 : (T.toList == [109, 97, 107, 101]) = false := by rw [hT, bP]; exact decide_eq_false q5
 have b6 : (T.toList == [108, 101, 110]) = false := by rw [hT, bP]; exact decide_eq_false q6
 have b7 : (T.toList == [116, 114, 117, 101]) = false := by rw [hT, bP]; exact decide_eq_false q7
 have b8 : (T.toList == [102, 97, 108, 115, 101]) = false := by rw [hT, bP]; exact decide_eq_false q8
 have b9 : (T.toList == [110, 105, 108]) = false := by rw [hT, bP]; exact decide_eq_false q9
 clear h k3 k1 hd hT q0 q1 q2 q3 q4 q5 q6 q7 q8 q9
 generalize (pk E n).kind = K at *
 have hf := aV
 go_enter Tryz.func311, Tryz.ntmps311
 go_wp2_with (first
  | (go_at_call 153; refine (HP.out _ (by first | exact Below.refl _ _ | assumption)).mono ?_; rintro e w1 ⟨rfl, hb1⟩))
 have hb2 := dD hb1 (.cells #[.int .i64 K, .string T, .int .i64 (pk E n).at_] 110) (.cells #[.int .i64 0, .int .i64 (pk E n).at_, .int .i64 0, .string (mkT []), .int .i64 0, .pointer none, .pointer none, .slice none 0 0] 64)
 refine (dC 3 _ (H0.out.fresh hb2)).mono ?_
 rintro e w4 hth
 have hth2 := hth.own H0.out.lt (Keeps.of_new hb2)
 obtain ⟨b, rfl⟩ := aB hth
 exact ⟨rfl, _, HEV.out, hth2⟩
theorem o5 {dep : Nat} (hO : oH rb tv E dep dd) : kY rb tv E dep dd :=
 FA (jZ (by decide) (by decide) (fun e => absurd e (by decide)) fun _ => jZ (by decide) (by decide) (fun e => absurd e (by decide)) fun _ => jZ (by decide) (by decide) (fun e => absurd e (by decide)) fun _ => jZ (by decide) (by decide) (fun e => absurd e (by decide)) fun _ => jZ (by decide) (by decide) (fun e => absurd e (by decide)) fun _ => jZ (by decide) (by decide) (fun _ => hO) fun e => absurd rfl e)
theorem wE {dep : Nat} (hd : dd <= 13) (hX : dd <= 12 -> kY rb tv E dep (dd + 1)) (hO : dd <= 12 -> oH rb tv E dep (dd + 1)) : oH rb tv E dep dd := by
 by_cases h12 : 12 < dd
 ·exact C3 h12
 have hd2 : dd <= 12 := by omega
 intro n w h hE
 by_cases k3 : (pk E n).kind = 3
 ·exact FB hd2 w h hE k3
 by_cases k1 : (pk E n).kind = 1
 ·exact C4 hd2 (wD (hX hd2) (by omega)) w h hE k1
 by_cases q0 : (pk E n).text = tLp
 ·exact yS hd2 (hX hd2) w h hE k3 k1 q0
 by_cases q1 : (pk E n).text = [45]
 ·exact FE hd2 (hO hd2) w h hE k3 k1 q1
 by_cases q2 : (pk E n).text = [94]
 ·exact FF hd2 (hO hd2) w h hE k3 k1 q2
 by_cases q3 : (pk E n).text = [33]
 ·exact FG hd2 (hO hd2) w h hE k3 k1 q3
 by_cases q4 : (pk E n).text = aM
 ·exact DA hd2 (hO hd2) w h hE k3 k1 q4
 by_cases q5 : (pk E n).text = dZ
 ·exact C9 hd2 (hX hd2) w h hE k3 k1 q5
 by_cases q6 : (pk E n).text = iR
 ·exact FD hd2 (hX hd2) w h hE k3 k1 q6
 by_cases q7 : (pk E n).text = eY
 ·exact C8 hd2 w h hE k3 k1 q7
 by_cases q8 : (pk E n).text = cW
 ·exact yR hd2 w h hE k3 k1 q8
 by_cases q9 : (pk E n).text = iS
 ·exact FC hd2 w h hE k3 k1 q9
 exact FH hd2 w h k3 k1 q0 q1 q2 q3 q4 q5 q6 q7 q8 q9
theorem pN {dep : Nat} : ∀ (q dd : Nat), 13 <= dd + q -> dd <= 13 -> oH rb tv E dep dd /\ (dd <= 13 -> kY rb tv E dep dd)
 | 0, dd, h1, h2 => by
  have hO : oH rb tv E dep dd := wE h2 (fun h => by omega) (fun h => by omega)
  exact ⟨hO, fun _ => o5 hO⟩
 | q + 1, dd, h1, h2 => by
  have hO : oH rb tv E dep dd := wE h2 (fun h => (pN q (dd + 1) (by omega) (by omega)).2 (by omega)) (fun h => (pN q (dd + 1) (by omega) (by omega)).1)
  exact ⟨hO, fun _ => o5 hO⟩
theorem KM {dep : Nat} (h : dd <= 13) : oH rb tv E dep dd := (pN 13 dd (by omega) h).1
theorem k8 {dep : Nat} (h : dd <= 13) : kY rb tv E dep dd := (pN 13 dd (by omega) h).2 h
theorem LF {dep : Nat} (h : dd <= 12) : A5 rb tv E dep dd := wD (k8 (by omega)) (by omega)
structure Blk (w : World) (b : Nat) (vs : List Value) : Prop where
 at_ : ∀ j v, vs[j]? = some v -> w.cell? ⟨b, j, none⟩ = some v
 free : ∀ j, w.frozen? ⟨b, j, none⟩ = false
 lt : b < w.heap.size
theorem Blk.new (w : World) (xs : Array Value) (t : TypeId) : Blk (w.alloc (.cells xs t)) w.heap.size xs.toList :=
 ⟨fun j v h => by rw [World.cell?_alloc_at _ _ _ _ rfl]; simpa using h, fun j => World.frozen?_alloc_new w _ _ _, by simp⟩
theorem Blk.new' (w : World) (xs : List Value) (t : TypeId) {b : Nat} (hb : b = w.heap.size) : Blk (w.alloc (.cells xs.toArray t)) b xs := by
 subst hb; exact Blk.new w xs.toArray t
theorem Blk.keeps {S : Nat -> Prop} {b : Nat} {vs : List Value} (h : Blk w b vs) (hk : Keeps S w w') (hs : ¬ S b) : Blk w' b vs :=
 ⟨fun j v hv => hk.cell_of (h.at_ j v hv) hs, fun j => by rw [hk.frozen (p := ⟨b, j, none⟩) h.lt hs]; exact h.free j, Nat.lt_of_lt_of_le h.lt hk.size⟩
theorem Blk.set {b : Nat} {vs : List Value} (h : Blk w b vs) (i : Nat) (u : Value) (hi : i < vs.length) : Blk (w.setCell ⟨b, i, none⟩ u) b (vs.set i u) := by
 refine ⟨fun j v hv => ?_, fun j => by rw [World.frozen?_setCell]; exact h.free j, by simpa [World.setCell] using h.lt⟩
 by_cases hij : i = j
 ·subst hij
  rw [List.getElem?_set_self hi] at hv
  cases hv
  exact World.cell?_setCell_same _ _ _ (h.at_ i _ (List.getElem?_eq_getElem hi))
 ·rw [List.getElem?_set_ne hij] at hv
  rw [World.cell?_setCell_other _ _ _ _ (aQ hij b)]
  exact h.at_ j v hv
theorem Blk.own {b : Nat} {vs : List Value} (_ : Blk w b vs) (i : Nat) (u : Value) : Keeps (fun j => j = b) w (w.setCell ⟨b, i, none⟩ u) := (Keeps.refl (fun j => j = b) w).setCell (p := ⟨b, i, none⟩) (Or.inl rfl) u
def StC (w : World) (F : Nat -> Prop) (vs : List Value) : St -> Prop
 | .mk code at_ name dst val thn els cases => ∃ tv vv nv ev cv : Value, vs = [.int .i64 (code : Nat), .int .i64 (at_ : Nat), .string (mkT name), tv, vv, nv, ev, cv] /\ StV w F tv vv nv ev cv dst val thn els cases
def CaC (w : World) (F : Nat -> Prop) (vs : List Value) : Ca -> Prop
 | .mk code at_ name dst val body => ∃ tv vv nv : Value, vs = [.int .i64 (code : Nat), .int .i64 (at_ : Nat), .string (mkT name), tv, vv, nv] /\ ExIn w F tv dst /\ ExIn w F vv val /\ SlAt F nv body.len /\ ∀ g n cap, nv = .slice (some ⟨g, 0, none⟩) n cap -> StsIn w F g 0 body
theorem StC.keeps {F S : Nat -> Prop} {vs : List Value} {s : St} (h : StC w F vs s) (hk : Keeps S w w') (hF : ∀ b, F b -> ¬ S b) : StC w' F vs s := by
 cases s with
 | mk code at_ name dst val thn els cases =>
  obtain ⟨tv, vv, nv, ev, cv, e, h1, h2, h3, h4, h5, h6, h7, h8⟩ := h
  exact ⟨tv, vv, nv, ev, cv, e, h1.keeps hk hF, h2.keeps hk hF, h3, fun g n cap e => StsIn.keeps hk hF g (h3.mem e) 0 thn (h4 g n cap e), h5, fun g n cap e => StsIn.keeps hk hF g (h5.mem e) 0 els (h6 g n cap e), h7, fun g n cap e => CasIn.keeps hk hF g (h7.mem e) 0 cases (h8 g n cap e)⟩
theorem CaC.keeps {F S : Nat -> Prop} {vs : List Value} {s : Ca} (h : CaC w F vs s) (hk : Keeps S w w') (hF : ∀ b, F b -> ¬ S b) : CaC w' F vs s := by
 cases s with
 | mk code at_ name dst val body =>
  obtain ⟨tv, vv, nv, e, h1, h2, h3, h4⟩ := h
  exact ⟨tv, vv, nv, e, h1.keeps hk hF, h2.keeps hk hF, h3, fun g n cap e => StsIn.keeps hk hF g (h3.mem e) 0 body (h4 g n cap e)⟩
def st0 (A : Nat) : List Value := [.int .i64 0, .int .i64 (A : Nat), .string (mkT []), .pointer none, .pointer none, .slice none 0 0, .slice none 0 0, .slice none 0 0]
def st1 (c A : Nat) (name : B) (o p : Option Addr) : List Value := [.int .i64 (c : Nat), .int .i64 (A : Nat), .string (mkT name), .pointer o, .pointer p, .slice none 0 0, .slice none 0 0, .slice none 0 0]
theorem dB {F : Nat -> Prop} {c A : Nat} {name : B} {o p : Option Addr} {x y : Ex} (hx : ExIn w F (.pointer o) x) (hy : ExIn w F (.pointer p) y) : StC w F (st1 c A name o p) (stz c A name x y) :=
 ⟨_, _, _, _, _, rfl, hx, hy, Or.inl ⟨rfl, rfl⟩, fun g n cap e => (by cases e), Or.inl ⟨rfl, rfl⟩, fun g n cap e => (by cases e), Or.inl ⟨rfl, rfl⟩, fun g n cap e => (by cases e)⟩
theorem Threw.with {S : Nat -> Prop} {a : World} {k p : Nat} {e : Ending} (h : Threw w w' rb k p e) (hlt : rb < a.heap.size) (hk : Keeps S a w) (hs : ∀ b, S b -> rb <= b) : Threw a w' rb k p e :=
 h.after (hk.below (Nat.le_of_lt hlt) (fun _ _ e => hs _ e))
theorem RdAt.two {sb : Nat} (h : RdAt w rb tv E n d) (hk : Keeps (fun b => b = sb) w w') (hs : rb < sb) : RdAt w' rb tv E n d := h.keeps hk (fun b e => by have : b = sb := e; omega)
theorem A7 {dep sb A : Nat} (c : Nat) (w : World) (h : RdAt w rb tv E n dep) (hE : TEnv rb E w) (hB : Blk w sb (st0 A)) (hs : rb < sb) (hk : (pk E n).kind = 1) (hn : n + 1 < E.toks.length) :
  Calls Tryz.prog 310 #[.pointer (some ⟨rb, 0, none⟩), .pointer (some ⟨sb, 0, none⟩), .int .i64 (c : Nat)] w fun e w' => ∃ r, Ev (fun f => dJ E f 0 (n + 2)) r /\ match r with
   | .ok x m => e = .returned (.tuple #[]) /\ (∃ o, Blk w' sb (st1 c A (pk E n).text none o) /\ ExV w w' x (.pointer o)) /\ RdAt w' rb tv E m dep /\ Keeps (fun b => b = rb \/ b = sb) w w'
   | .bad k a => Threw w w' rb k a e
   | .out => False := by
 have HTK := zz (aX 1 (by decide) w h)
 have hv : aF E 1 n = .ok (pk E n) (n + 1) := by unfold aF; rw [if_pos hk]
 rw [hv] at HTK
 have HE := zz hE
 have HB := zz hB
 have HS := zz hs
 have HLT := zz h.lt
 have HN := zz hn
 clear h hE hB hs hk hn hv
 unfold bL jL aR at HTK
 simp only at HTK
 generalize hT : mkT (pk E n).text = T at *
 generalize (pk E n).kind = K at *
 generalize (pk E n).at_ = P at *
 have hf := aY
 go_enter Tryz.func310, Tryz.ntmps310
 go_wp2_with fail
 refine HTK.out.mono ?_
 rintro e w1 ⟨v, rfl, rfl, hr1, hk1⟩
 have hB1 := HB.out.keeps hk1 (fun e => absurd (show sb = rb from e) (by have := HS.out; omega))
 have c0 := hB1.at_ 0 _ rfl
 have c2 := hB1.at_ 2 _ rfl
 have z0 := hB1.free 0
 have z2 := hB1.free 2
 have HB1 := zz hB1
 have HR1 := zz hr1
 have HK1 := zz hk1
 clear hB1 hr1 hk1
 go_wp2_with fail
 have hks := (HB1.out.own 0 (.int .i64 c)).setCell (S := fun b => b = sb) (p := ⟨sb, 2, none⟩) (Or.inl rfl) (.string T)
 have hB2 := (HB1.out.set 0 (.int .i64 c) (by simp [st0])).set 2 (.string T) (by simp [st0])
 refine (bF _ (HR1.out.two hks HS.out) HN.out).mono ?_
 rintro e w3 ⟨rfl, hr3, hk3⟩
 have hB3 := hB2.keeps hk3 (fun e => absurd (show sb = rb from e) (by have := HS.out; omega))
 have hkk : Keeps (fun b => b = rb \/ b = sb) w w3 := ((HK1.out.mono (fun _ _ e => Or.inl e)).trans (hks.mono (fun _ _ e => Or.inr e))).trans (hk3.mono (fun _ _ e => Or.inl e))
 have HB3 := zz hB3
 have HR3 := zz hr3
 have HK3 := zz hkk
 have HX := zz (k8 (dd := 0) (Nat.zero_le _) (n + 2) w3 hr3 (HE.out.keeps hkk (fun b e => by have := HS.out; omega)))
 clear hks hB2 hr3 hk3 hB3 hkk c0 c2 z0 z2
 unfold aR
 generalize mkT (pk E (n + 1)).text = T2
 generalize (pk E (n + 1)).kind = K2
 generalize (pk E (n + 1)).at_ = P2
 go_wp2_with fail
 refine HX.out.mono ?_
 rintro e w4 ⟨r, hev, hsay⟩
 have hlt3 : rb < w3.heap.size := HR3.out.lt
 cases r with
 | out => exact hsay.elim
 | bad k a =>
  have hsay' : Threw w3 w4 rb k a e := hsay
  obtain ⟨b, rfl⟩ := aB hsay'
  exact ⟨rfl, .bad k a, hev, hsay'.with HLT.out HK3.out (fun b e => by have := HS.out; omega)⟩
 | ok x m =>
  obtain ⟨v, rfl, hx, hr4, hk4⟩ := hsay
  obtain ⟨o, rfl⟩ := aL hx
  have hB4 := HB3.out.keeps hk4 (fun e => absurd (show sb = rb from e) (by have := HS.out; omega))
  have c4 := hB4.at_ 4 _ rfl
  have z4 := hB4.free 4
  have HB4 := zz hB4
  have HXV := zz hx
  have HR4 := zz hr4
  have HK4 := zz hk4
  have HEV := zz hev
  clear hB4 hx hr4 hk4 hev
  go_wp2_with fail
  go_end0
  have hks := HB4.out.own 4 (.pointer o)
  have hF := HK3.out.size
  have hlt := HB3.out.lt
  refine ⟨.ok x m, HEV.out, rfl, ⟨o, ?_, ?_⟩, HR4.out.two hks HS.out, (HK3.out.trans (HK4.out.mono (fun _ _ e => Or.inl e))).trans (hks.mono (fun _ _ e => Or.inr e))⟩
  ·have h := HB4.out.set 4 (.pointer o) (by simp [st0])
   rw [<- hT] at h
   exact h
  ·exact ExIn.mono (fun b _ e => Nat.le_trans hF e) _ _ (ExIn.keeps HXV.out hks (fun b e e2 => by have h1 : w3.heap.size <= b := e; have h2 : b = sb := e2; omega))
theorem Blk.fresh {b : Nat} {vs : List Value} (h : Blk w b vs) (hb : Below w.heap.size w w') : Blk w' b vs := h.keeps (S := fun _ => False) (Keeps.of_new hb) id
structure Nn (E : Env) (f : Nat) : Prop where
 one : ∀ d n x m, Tr.one E f d n = .ok x m -> x ≠ .nil
 bracketed : ∀ d n x m, Tr.bracketed E f d n = .ok x m -> x ≠ .nil
 tied : ∀ l d n x m, Tr.tied E f l d n = .ok x m -> x ≠ .nil
 tloop : ∀ l d a n x m, a ≠ .nil -> Tr.tloop E f l d a n = .ok x m -> x ≠ .nil
 named : ∀ d n x m, Tr.named E f d n = .ok x m -> x ≠ .nil
 call : ∀ d t n x m, Tr.call E f d t n = .ok x m -> x ≠ .nil
theorem nns (f : Nat) : Nn E f := by
  induction f with
  | zero =>
    constructor
    · intro _ _ _ _ h; rw [Tr.one] at h; cases h
    · intro _ _ _ _ h; rw [Tr.bracketed] at h; cases h
    · intro _ _ _ _ _ h; rw [Tr.tied] at h; cases h
    · intro _ _ _ _ _ _ _ h; rw [Tr.tloop] at h; cases h
    · intro _ _ _ _ h; rw [Tr.named] at h; cases h
    · intro _ _ _ _ _ h; rw [Tr.call] at h; cases h
  | succ f ih =>
    constructor
    · intro d n x m h
      rw [fQ] at h
      repeat' split at h
      all_goals first
        | exact (aP h).elim
        | (cases h; intro e; cases e)
        | exact ih.named _ _ _ _ h
        | exact ih.bracketed _ _ _ _ h
        | (obtain ⟨y, k, h1, h2⟩ := aA h
           cases h2
           intro e; cases e)
    · intro d n x m h
      rw [bX] at h
      obtain ⟨_, n1, h1, h⟩ := aA h
      obtain ⟨_, n2, h2, h⟩ := aA h
      obtain ⟨_, n3, h3, h⟩ := aA h
      cases h
      exact ih.tied _ _ _ _ _ h2
    · intro l d n x m h
      rw [iT] at h
      split at h
      · exact ih.one _ _ _ _ h
      · obtain ⟨y, n1, h1, h⟩ := aA h
        exact ih.tloop _ _ _ _ _ _ (ih.tied _ _ _ _ _ h1) h
    · intro l d a n x m ha h
      rw [hM] at h
      split at h
      · obtain ⟨_, n1, h1, h⟩ := aA h
        exact ih.tloop _ _ _ _ _ _ (fun e => by cases e) h
      · cases h; exact ha
    · intro d n x m h
      rw [hU] at h
      split at h
      · exact ih.call _ _ _ _ _ h
      · cases h; intro e; cases e
    · intro d t n x m h
      rw [iU] at h
      obtain ⟨_, n1, h1, h⟩ := aA h
      split at h
      · cases h; intro e; cases e
      · obtain ⟨_, n2, h2, h⟩ := aA h
        cases h
        intro e; cases e
theorem lX {d n m : Nat} {x : Ex} (h : Ev (fun f => Tr.one E f d n) (.ok x m)) : x ≠ .nil := by
 obtain ⟨f, hf⟩ := h.get
 exact (nns f).one _ _ _ _ hf
def mG (w w' : World) (rb : Nat) (tv : Value) (E : Env) (dep sb : Nat) (r : Res St) (e : Ending) : Prop := match r with
 | .ok s m => e = .returned (.tuple #[]) /\ (∃ vs, Blk w' sb vs /\ StC w' (fun b => w.heap.size <= b) vs s) /\ RdAt w' rb tv E m dep /\ Keeps (fun b => b = rb \/ b = sb) w w'
 | .bad k a => Threw w w' rb k a e
 | .out => False
theorem DB (h : (pk E n).kind = 1 /\ (pk E (n + 1)).text = iQ) (f : Nat) : cN E f n = (dJ E f 0 (n + 2)).bind fun x m => .ok (stz 1 (pk E n).at_ (pk E n).text .nil x) m := by
 unfold cN; rw [if_pos h]
theorem DC (h1 : ¬ ((pk E n).kind = 1 /\ (pk E (n + 1)).text = iQ)) (h : (pk E n).kind = 1 /\ (pk E (n + 1)).text = pW) (f : Nat) : cN E f n = (dJ E f 0 (n + 2)).bind fun x m => .ok (stz 2 (pk E n).at_ (pk E n).text .nil x) m := by
 unfold cN; rw [if_neg h1, if_pos h]
theorem DD (h1 : ¬ ((pk E n).kind = 1 /\ (pk E (n + 1)).text = iQ)) (h2 : ¬ ((pk E n).kind = 1 /\ (pk E (n + 1)).text = pW)) (f : Nat) : cN E f n = (Tr.one E f 0 n).bind fun x m =>
  if (pk E m).text = aM then (dJ E f 0 (m + 1)).bind fun y m2 => .ok (stz 3 (pk E n).at_ [] x y) m2
  else if codeOf x = 7 \/ codeOf x = 10 then .ok (stz 11 (pk E n).at_ [] .nil x) m
  else fail E 3 m := by
 unfold cN; rw [if_neg h1, if_neg h2]
theorem rM {dep sb : Nat} (w : World) (h : RdAt w rb tv E n dep) (hE : TEnv rb E w) (hB : Blk w sb (st0 (pk E n).at_)) (hs : rb < sb) (h1 : (pk E n).kind = 1 /\ (pk E (n + 1)).text = iQ) :
  Calls Tryz.prog 296 #[.pointer (some ⟨rb, 0, none⟩), .pointer (some ⟨sb, 0, none⟩)] w fun e w' => ∃ r, Ev (fun f => cN E f n) r /\ mG w w' rb tv E dep sb r e := by
 have HP := zz (aN w h)
 have HA : Hid (∀ W, Below w.heap.size w W -> Calls Tryz.prog 202 #[.pointer (some ⟨rb, 0, none⟩), .int .i64 1] W fun e w' => e = .returned (aR (pk E (n + 1))) /\ Below w.heap.size w w') :=
  zz fun W hb => (iZ 1 W (h.fresh hb) (by omega)).mono fun _ _ ⟨e1, e2⟩ => ⟨e1, hb.trans (e2.mono hb.size)⟩
 have HPUT : Hid (∀ W, Below w.heap.size w W -> Calls Tryz.prog 310 #[.pointer (some ⟨rb, 0, none⟩), .pointer (some ⟨sb, 0, none⟩), .int .i64 ((1 : Nat) : Int)] W fun e w' => ∃ r, Ev (fun f => cN E f n) r /\ mG w w' rb tv E dep sb r e) := zz fun W hb => by
  refine (A7 1 W (h.fresh hb) (hE.fresh hb) (hB.fresh hb) hs h1.1 (d8 h1.2 (by decide))).mono ?_
  rintro e w2 ⟨r, hev, hsay⟩
  refine ⟨r.bind fun x m => .ok (stz 1 (pk E n).at_ (pk E n).text .nil x) m, ?_, ?_⟩
  ·have h := Ev.map (fun x m => (.ok (stz 1 (pk E n).at_ (pk E n).text .nil x) m : Res St)) (fun _ _ e => by cases e) hev
   exact ⟨h.1, h.2.imp fun f0 hf f hle => by show cN E f n = _; rw [DB h1 f]; exact hf f hle⟩
  ·cases r with
   | out => exact hsay.elim
   | bad k a => exact Threw.with (S := fun _ => False) (a := w) (w := W) hsay h.lt (Keeps.of_new hb) (fun b e => e.elim)
   | ok x m =>
    obtain ⟨e1, ⟨o, e2, e3⟩, e4, e5⟩ := hsay
    exact ⟨e1, ⟨_, e2, dB rfl (ExIn.mono (fun b _ e => Nat.le_trans hb.size e) _ _ e3)⟩, e4, (Keeps.of_new hb).trans e5⟩
 have hki : ((pk E n).kind : Int) = 1 := by have := h1.1; omega
 unfold aR at HP HA
 rw [hki] at HP
 obtain ⟨T2, hT2⟩ : ∃ T, T = mkT (pk E (n + 1)).text := ⟨_, rfl⟩
 rw [<- hT2] at HA
 have b1 : (T2.toList == [58, 61]) = true := by rw [hT2, h1.2, Lib.toList_data]; rfl
 clear h hE hB hs h1 hki hT2
 generalize mkT (pk E n).text = T at *
 have hf := aV
 have hf1 := aY
 go_enter Tryz.func296, Tryz.ntmps296
 go_wp2_with (first
  | (go_at_call 153; refine HP.out.mono ?_; rintro e w1 ⟨rfl, hb1⟩)
  | (go_at_call 202; refine (HA.out _ hb1).mono ?_; rintro e w2 ⟨rfl, hb2⟩))
 refine (HPUT.out _ (by assumption)).mono ?_
 rintro e w3 ⟨r, hev, hsay⟩
 cases r with
 | out => exact hsay.elim
 | bad k a =>
  have hsay' : Threw w w3 rb k a e := hsay
  obtain ⟨b, rfl⟩ := aB hsay'
  exact ⟨rfl, .bad k a, hev, hsay'⟩
 | ok x m =>
  have HSY := zz hsay
  obtain ⟨rfl, _⟩ := hsay
  go_wp2_with fail
  try simp only [Exit.inBlock, Exit.then]
  refine bodyPost_ret (results_none rfl _ _ _) rfl ?_
  exact ⟨.ok x m, hev, HSY.out⟩
theorem rN {dep sb : Nat} (w : World) (h : RdAt w rb tv E n dep) (hE : TEnv rb E w) (hB : Blk w sb (st0 (pk E n).at_)) (hs : rb < sb) (h0 : ¬ ((pk E n).kind = 1 /\ (pk E (n + 1)).text = iQ)) (h1 : (pk E n).kind = 1 /\ (pk E (n + 1)).text = pW) :
  Calls Tryz.prog 296 #[.pointer (some ⟨rb, 0, none⟩), .pointer (some ⟨sb, 0, none⟩)] w fun e w' => ∃ r, Ev (fun f => cN E f n) r /\ mG w w' rb tv E dep sb r e := by
 have HP := zz (aN w h)
 have HA : Hid (∀ W, Below w.heap.size w W -> Calls Tryz.prog 202 #[.pointer (some ⟨rb, 0, none⟩), .int .i64 1] W fun e w' => e = .returned (aR (pk E (n + 1))) /\ Below w.heap.size w w') :=
  zz fun W hb => (iZ 1 W (h.fresh hb) (by omega)).mono fun _ _ ⟨e1, e2⟩ => ⟨e1, hb.trans (e2.mono hb.size)⟩
 have HPUT : Hid (∀ W, Below w.heap.size w W -> Calls Tryz.prog 310 #[.pointer (some ⟨rb, 0, none⟩), .pointer (some ⟨sb, 0, none⟩), .int .i64 ((2 : Nat) : Int)] W fun e w' => ∃ r, Ev (fun f => cN E f n) r /\ mG w w' rb tv E dep sb r e) := zz fun W hb => by
  refine (A7 2 W (h.fresh hb) (hE.fresh hb) (hB.fresh hb) hs h1.1 (d8 h1.2 (by decide))).mono ?_
  rintro e w2 ⟨r, hev, hsay⟩
  refine ⟨r.bind fun x m => .ok (stz 2 (pk E n).at_ (pk E n).text .nil x) m, ?_, ?_⟩
  ·have h := Ev.map (fun x m => (.ok (stz 2 (pk E n).at_ (pk E n).text .nil x) m : Res St)) (fun _ _ e => by cases e) hev
   exact ⟨h.1, h.2.imp fun f0 hf f hle => by show cN E f n = _; rw [DC h0 h1 f]; exact hf f hle⟩
  ·cases r with
   | out => exact hsay.elim
   | bad k a => exact Threw.with (S := fun _ => False) (a := w) (w := W) hsay h.lt (Keeps.of_new hb) (fun b e => e.elim)
   | ok x m =>
    obtain ⟨e1, ⟨o, e2, e3⟩, e4, e5⟩ := hsay
    exact ⟨e1, ⟨_, e2, dB rfl (ExIn.mono (fun b _ e => Nat.le_trans hb.size e) _ _ e3)⟩, e4, (Keeps.of_new hb).trans e5⟩
 have hki : ((pk E n).kind : Int) = 1 := by have := h1.1; omega
 unfold aR at HP HA
 rw [hki] at HP
 obtain ⟨T2, hT2⟩ : ∃ T, T = mkT (pk E (n + 1)).text := ⟨_, rfl⟩
 rw [<- hT2] at HA
 have b1 : (T2.toList == [61]) = true := by rw [hT2, h1.2, Lib.toList_data]; rfl
 have b0 : (T2.toList == [58, 61]) = false := by rw [hT2, h1.2, Lib.toList_data]; rfl
 clear h hE hB hs h1 hki hT2 h0
 generalize mkT (pk E n).text = T at *
 have hf := aV
 have hf1 := aY
 go_enter Tryz.func296, Tryz.ntmps296
 go_wp2_with (first
  | (go_at_call 153; refine HP.out.mono ?_; rintro e w1 ⟨rfl, hb1⟩)
  | (go_at_call 202; refine (HA.out _ hb1).mono ?_; rintro e w2 ⟨rfl, hb2⟩))
 refine (HPUT.out _ (by assumption)).mono ?_
 rintro e w3 ⟨r, hev, hsay⟩
 cases r with
 | out => exact hsay.elim
 | bad k a =>
  have hsay' : Threw w w3 rb k a e := hsay
  obtain ⟨b, rfl⟩ := aB hsay'
  exact ⟨rfl, .bad k a, hev, hsay'⟩
 | ok x m =>
  have HSY := zz hsay
  obtain ⟨rfl, _⟩ := hsay
  go_wp2_with fail
  try simp only [Exit.inBlock, Exit.then]
  refine bodyPost_ret (results_none rfl _ _ _) rfl ?_
  exact ⟨.ok x m, hev, HSY.out⟩
theorem FI (A c : Nat) (o p : Option Addr) : (((st0 A).set 0 (.int .i64 (c : Nat))).set 3 (.pointer o)).set 4 (.pointer p) = st1 c A [] o p := rfl
theorem pO (A c : Nat) (p : Option Addr) : ((st0 A).set 0 (.int .i64 (c : Nat))).set 4 (.pointer p) = st1 c A [] none p := rfl
theorem I2 {sb i j k : Nat} {a b c : Value} : Keeps (fun q => q = sb) w (((w.setCell ⟨sb, i, none⟩ a).setCell ⟨sb, j, none⟩ b).setCell ⟨sb, k, none⟩ c) :=
 (((Keeps.refl (fun q => q = sb) w).setCell (S := fun q => q = sb) (p := ⟨sb, i, none⟩) (Or.inl rfl) a).setCell (S := fun q => q = sb) (p := ⟨sb, j, none⟩) (Or.inl rfl) b).setCell (S := fun q => q = sb) (p := ⟨sb, k, none⟩) (Or.inl rfl) c
theorem mP {sb i j : Nat} {a b : Value} : Keeps (fun q => q = sb) w ((w.setCell ⟨sb, i, none⟩ a).setCell ⟨sb, j, none⟩ b) :=
 ((Keeps.refl (fun q => q = sb) w).setCell (S := fun q => q = sb) (p := ⟨sb, i, none⟩) (Or.inl rfl) a).setCell (S := fun q => q = sb) (p := ⟨sb, j, none⟩) (Or.inl rfl) b
mutual
theorem StIn.mono {F G : Nat -> Prop} (hF : ∀ b, F b -> G b) (b o : Nat) : ∀ (x : St), StIn w F b o x -> StIn w G b o x
 | .mk code at_ name dst val thn els cases, h => by
  obtain ⟨tv, vv, nv, ev, cv, c0, c1, c2, c3, c4, c5, c6, c7, h1, h2, h3, h4, h5, h6, h7, h8⟩ := h
  have slm : ∀ (v : Value) (k : Nat), SlAt F v k -> SlAt G v k := fun v k h => by
   rcases h with h | ⟨g, cap, a1, a2, a3, a4, a5⟩
   ·exact Or.inl h
   ·exact Or.inr ⟨g, cap, a1, a2, a3, a4, hF g a5⟩
  exact ⟨tv, vv, nv, ev, cv, c0, c1, c2, c3, c4, c5, c6, c7, ExIn.mono (fun b _ h => hF b h) _ _ h1, ExIn.mono (fun b _ h => hF b h) _ _ h2, slm _ _ h3, fun g n cap e => StsIn.mono hF g 0 thn (h4 g n cap e), slm _ _ h5, fun g n cap e => StsIn.mono hF g 0 els (h6 g n cap e), slm _ _ h7, fun g n cap e => CasIn.mono hF g 0 cases (h8 g n cap e)⟩
theorem StsIn.mono {F G : Nat -> Prop} (hF : ∀ b, F b -> G b) (g : Nat) : ∀ (i : Nat) (xs : Sts), StsIn w F g i xs -> StsIn w G g i xs
 | _, .nil, _ => trivial
 | i, .cons x xs, h => ⟨StIn.mono hF g (i * 8) x h.1, StsIn.mono hF g (i + 1) xs h.2⟩
theorem CaIn.mono {F G : Nat -> Prop} (hF : ∀ b, F b -> G b) (b o : Nat) : ∀ (x : Ca), CaIn w F b o x -> CaIn w G b o x
 | .mk code at_ name dst val body, h => by
  obtain ⟨tv, vv, nv, c0, c1, c2, c3, c4, c5, h1, h2, h3, h4⟩ := h
  have slm : ∀ (v : Value) (k : Nat), SlAt F v k -> SlAt G v k := fun v k h => by
   rcases h with h | ⟨g, cap, a1, a2, a3, a4, a5⟩
   ·exact Or.inl h
   ·exact Or.inr ⟨g, cap, a1, a2, a3, a4, hF g a5⟩
  exact ⟨tv, vv, nv, c0, c1, c2, c3, c4, c5, ExIn.mono (fun b _ h => hF b h) _ _ h1, ExIn.mono (fun b _ h => hF b h) _ _ h2, slm _ _ h3, fun g n cap e => StsIn.mono hF g 0 body (h4 g n cap e)⟩
theorem CasIn.mono {F G : Nat -> Prop} (hF : ∀ b, F b -> G b) (g : Nat) : ∀ (i : Nat) (xs : Cas), CasIn w F g i xs -> CasIn w G g i xs
 | _, .nil, _ => trivial
 | i, .cons x xs, h => ⟨CaIn.mono hF g (i * 6) x h.1, CasIn.mono hF g (i + 1) xs h.2⟩
end
theorem iC {dep sb m : Nat} {vs : List Value} {s : St} {w1 w2 : World} {F : Nat -> Prop} (hB : Blk w2 sb vs) (hC : StC w1 F vs s) (hF : ∀ b, F b -> w.heap.size <= b) (hR : RdAt w1 rb tv E m dep) (hk : Keeps (fun b => b = rb \/ b = sb) w w1) (hks : Keeps (fun b => b = sb) w1 w2) (hs : rb < sb) (hsl : sb < w.heap.size) :
  (∃ vs, Blk w2 sb vs /\ StC w2 (fun b => w.heap.size <= b) vs s) /\ RdAt w2 rb tv E m dep /\ Keeps (fun b => b = rb \/ b = sb) w w2 := by
 refine ⟨⟨vs, hB, ?_⟩, hR.two hks hs, hk.trans (hks.mono (fun _ _ e => Or.inr e))⟩
 have h1 : StC w2 F vs s := hC.keeps hks (fun b e e2 => by have := hF b e; have : b = sb := e2; omega)
 cases s with
 | mk code at_ name dst val thn els cases =>
  obtain ⟨tv, vv, nv, ev, cv, e, h1, h2, h3, h4, h5, h6, h7, h8⟩ := h1
  have slm : ∀ (v : Value) (k : Nat), SlAt F v k -> SlAt (fun b => w.heap.size <= b) v k := fun v k h => by
   rcases h with h | ⟨g, cap, a1, a2, a3, a4, a5⟩
   ·exact Or.inl h
   ·exact Or.inr ⟨g, cap, a1, a2, a3, a4, hF g a5⟩
  exact ⟨tv, vv, nv, ev, cv, e, ExIn.mono (fun b _ h => hF b h) _ _ h1, ExIn.mono (fun b _ h => hF b h) _ _ h2, slm _ _ h3, fun g n cap e => StsIn.mono (fun b h => hF b h) g 0 thn (h4 g n cap e), slm _ _ h5, fun g n cap e => StsIn.mono (fun b h => hF b h) g 0 els (h6 g n cap e), slm _ _ h7, fun g n cap e => CasIn.mono (fun b h => hF b h) g 0 cases (h8 g n cap e)⟩
theorem rO {dep sb : Nat} (w : World) (h : RdAt w rb tv E n dep) (hE : TEnv rb E w) (hB : Blk w sb (st0 (pk E n).at_)) (hs : rb < sb) (h1 : ¬ ((pk E n).kind = 1 /\ (pk E (n + 1)).text = iQ)) (h2 : ¬ ((pk E n).kind = 1 /\ (pk E (n + 1)).text = pW)) :
  Calls Tryz.prog 296 #[.pointer (some ⟨rb, 0, none⟩), .pointer (some ⟨sb, 0, none⟩)] w fun e w' => ∃ r, Ev (fun f => cN E f n) r /\ mG w w' rb tv E dep sb r e := by
 have HP := zz (aN w h)
 have HA : Hid (∀ W, Below w.heap.size w W -> Calls Tryz.prog 202 #[.pointer (some ⟨rb, 0, none⟩), .int .i64 1] W fun e w' => e = .returned (aR (pk E (n + 1))) /\ Below w.heap.size w w') :=
  zz fun W hb => (iZ 1 W (h.fresh hb) (by omega)).mono fun _ _ ⟨e1, e2⟩ => ⟨e1, hb.trans (e2.mono hb.size)⟩
 have HON : Hid (∀ W, Below w.heap.size w W -> Calls Tryz.prog 311 #[.pointer (some ⟨rb, 0, none⟩), .int .i64 0] W fun e w' => ∃ r, Ev (fun f => Tr.one E f 0 n) r /\ bL ExV W w' rb tv E dep r e) := zz fun W hb => KM (dd := 0) (Nat.zero_le _) n W (h.fresh hb) (hE.fresh hb)
 have HEV : Hid (∀ r, Ev (fun f => (Tr.one E f 0 n).bind fun x m =>
  if (pk E m).text = aM then (dJ E f 0 (m + 1)).bind fun y m2 => .ok (stz 3 (pk E n).at_ [] x y) m2
  else if codeOf x = 7 \/ codeOf x = 10 then .ok (stz 11 (pk E n).at_ [] .nil x) m
  else fail E 3 m) r -> Ev (fun f => cN E f n) r) := zz fun r hr => ⟨hr.1, hr.2.imp fun f0 hf f hle => by show cN E f n = _; rw [DD h1 h2 f]; exact hf f hle⟩
 have HE := zz hE
 have HB := zz hB
 have HS := zz hs
 have HLT := zz h.lt
 have e60 : (⟨#[60, 45]⟩ : ByteArray).data.toList = aM := rfl
 have hf := aV
 have hf1 := aY
 unfold aR at HP HA
 clear h hE hB hs
 by_cases hk : (pk E n).kind = 1
 ·have hki : ((pk E n).kind : Int) = 1 := by omega
  have q1 : (pk E (n + 1)).text ≠ iQ := fun e => h1 ⟨hk, e⟩
  have q2 : (pk E (n + 1)).text ≠ pW := fun e => h2 ⟨hk, e⟩
  rw [hki] at HP
  obtain ⟨T2, hT2⟩ : ∃ T, T = mkT (pk E (n + 1)).text := ⟨_, rfl⟩
  rw [<- hT2] at HA
  have b1 : (T2.toList == [58, 61]) = false := by rw [hT2, bP]; exact decide_eq_false q1
  have b0 : (T2.toList == [61]) = false := by rw [hT2, bP]; exact decide_eq_false q2
  clear h1 h2 hk hki q1 q2 hT2
  generalize mkT (pk E n).text = T at *
  go_enter Tryz.func296, Tryz.ntmps296
  go_wp2_with (first
   | (go_at_call 153; refine HP.out.mono ?_; rintro e w1 ⟨rfl, hb1⟩)
   | (go_at_call 202; refine (HA.out _ hb1).mono ?_; clear hb1; rintro e w1 ⟨rfl, hb1⟩))
  clear HA
  have HB1 := zz hb1
  refine (HON.out _ HB1.out).mono ?_
  rintro e w2 ⟨r, hev, hsay⟩
  clear hb1 HP
  cases r with
  | out => exact hsay.elim
  | bad k a =>
   have hsay' : Threw w1 w2 rb k a e := hsay
   obtain ⟨b, rfl⟩ := aB hsay'
   exact ⟨rfl, .bad k a, HEV.out _ (Ev.bad hev), hsay'.with (S := fun _ => False) HLT.out (Keeps.of_new HB1.out) (fun b e => e.elim)⟩
  | ok x m =>
   obtain ⟨v, rfl, hx, hr2, hk2⟩ := hsay
   obtain ⟨o, rfl⟩ := aL hx
   have hnn := lX hev
   have hkw : Keeps (fun b => b = rb \/ b = sb) w w2 := (Keeps.of_new HB1.out).trans (hk2.mono (fun _ _ e => Or.inl e))
   have hB2 := (HB.out.fresh HB1.out).keeps hk2 (fun e => absurd (show sb = rb from e) (by have := HS.out; omega))
   have hx' : ExV w w2 x (.pointer o) := hx.of HB1.out.size
   have hE2 := (HE.out.fresh HB1.out).own hk2
   have HXV := zz hx'
   have HK2 := zz hkw
   have HB2 := zz hB2
   have HE2 := zz hE2
   have HTI := cX ⟨#[60, 45]⟩ (by decide) w2 hr2
   rw [e60] at HTI
   have HI := zz HTI
   have HEV1 := zz hev
   have HNN := zz hnn
   have HSZ := zz hkw.size
   clear hx hx' hr2 hk2 hkw hB2 hE2 HTI hev hnn
   go_wp2_with fail
   by_cases hc : (pk E m).text = aM
   ·have hv : aO E aM m = m + 1 := by unfold aO; rw [if_pos hc]
    rw [hv, decide_eq_true hc] at HI
    have HC := zz hc
    clear hv hc
    refine HI.out.mono ?_
    rintro e w3 ⟨rfl, hr3, hk3⟩
    have hB3 := HB2.out.keeps hk3 (fun e => absurd (show sb = rb from e) (by have := HS.out; omega))
    have hx3 := HXV.out.on HLT.out hk3
    have hk03 := HK2.out.trans (hk3.mono (fun _ _ e => Or.inl e))
    have HB3 := zz hB3
    have HX3 := zz hx3
    have HK3 := zz hk03
    have HXP := zz (k8 (dd := 0) (Nat.zero_le _) (m + 1) w3 hr3 (HE2.out.own hk3))
    clear hr3 hk3 hB3 hx3 hk03
    go_wp2_with fail
    refine HXP.out.mono ?_
    rintro e w4 ⟨r, hev, hsay⟩
    cases r with
    | out => exact hsay.elim
    | bad k a =>
     have hsay' : Threw w3 w4 rb k a e := hsay
     obtain ⟨b, rfl⟩ := aB hsay'
     refine ⟨rfl, .bad k a, HEV.out _ (Ev.then HEV1.out ?_), hsay'.with HLT.out HK3.out (fun b e => by have := HS.out; omega)⟩
     simp only [if_pos HC.out]
     exact Ev.bad hev
    | ok y m2 =>
     obtain ⟨v4, rfl, hx4, hr4, hk4⟩ := hsay
     obtain ⟨o2, rfl⟩ := aL hx4
     have hB4 := HB3.out.keeps hk4 (fun e => absurd (show sb = rb from e) (by have := HS.out; omega))
     have c0 := hB4.at_ 0 _ rfl
     have c3 := hB4.at_ 3 _ rfl
     have c4 := hB4.at_ 4 _ rfl
     have z0 := hB4.free 0
     have z3 := hB4.free 3
     have z4 := hB4.free 4
     have HB4 := zz hB4
     have HX4 := zz hx4
     have HR4 := zz hr4
     have HK4 := zz hk4
     have HEV4 := zz hev
     clear hB4 hx4 hr4 hk4 hev
     go_wp2_with fail
     go_end0
     refine ⟨.ok (stz 3 (pk E n).at_ [] x y) m2, HEV.out _ (Ev.then HEV1.out ?_), rfl, ?_⟩
     ·simp only [if_pos HC.out]
      exact Ev.then HEV4.out (Ev.pure (fun e => by cases e) fun _ => rfl)
     ·have h5 := (((HB4.out.set 0 (.int .i64 (3 : Nat)) (by simp [st0])).set 3 (.pointer o) (by simp [st0])).set 4 (.pointer o2) (by simp [st0]))
      rw [FI] at h5
      exact iC h5 (dB (F := fun b => w.heap.size <= b) (HX3.out.on HLT.out HK4.out) (HX4.out.of HK3.out.size) ) (fun _ e => e) HR4.out (HK3.out.trans (HK4.out.mono (fun _ _ e => Or.inl e))) I2 HS.out HB.out.lt
   ·have hv : aO E aM m = m := by unfold aO; rw [if_neg hc]
    rw [hv, decide_eq_false hc] at HI
    have HC := zz hc
    clear hv hc
    refine HI.out.mono ?_
    rintro e w3 ⟨rfl, hr3, hk3⟩
    have hB3 := HB2.out.keeps hk3 (fun e => absurd (show sb = rb from e) (by have := HS.out; omega))
    have hx3 := HXV.out.on HLT.out hk3
    have hk03 := HK2.out.trans (hk3.mono (fun _ _ e => Or.inl e))
    cases x with
    | nil => exact absurd rfl HNN.out
    | mk code at2 num op nm l r ar =>
     have hx3' := hx3
     obtain ⟨b, lv, rv, av, e, hb, x0, _⟩ := hx3'
     cases e
     have c0 := hB3.at_ 0 _ rfl
     have c4 := hB3.at_ 4 _ rfl
     have z0 := hB3.free 0
     have z4 := hB3.free 4
     have HB3 := zz hB3
     have HX3 := zz hx3
     have HK3 := zz hk03
     have HR3 := zz hr3
     have HSB := zz hb
     have hne : (⟨b, 0, none⟩ : Addr).block ≠ (⟨sb, 0, none⟩ : Addr).block := by have h1 : w.heap.size <= b := hb; have := HB.out.lt; show b ≠ sb; omega
     clear hr3 hk3 hB3 hx3 hk03 hb
     by_cases h7 : (code : Int) = 7
     ·have e7 : ((code : Int) == 7) = true := by rw [h7]; rfl
      have HC7 : Hid (code = 7 \/ code = 10) := zz (by omega)
      clear h7
      go_wp2_with fail
      go_end0
      refine ⟨.ok (stz 11 (pk E n).at_ [] .nil (.mk code at2 num op nm l r ar)) m, HEV.out _ (Ev.then HEV1.out ?_), rfl, ?_⟩
      ·simp only [if_neg HC.out]
       rw [if_pos (show codeOf (.mk code at2 num op nm l r ar) = 7 \/ codeOf (.mk code at2 num op nm l r ar) = 10 from HC7.out)]
       exact Ev.pure (fun e => by cases e) fun _ => rfl
      ·have h5 := (HB3.out.set 0 (.int .i64 (11 : Nat)) (by simp [st0])).set 4 (.pointer (some ⟨b, 0, none⟩)) (by simp [st0])
       rw [pO] at h5
       exact iC h5 (dB (F := fun b => w.heap.size <= b) rfl HX3.out) (fun _ e => e) HR3.out HK3.out mP HS.out HB.out.lt
     ·have e7 : ((code : Int) == 7) = false := beq_eq_false_iff_ne.2 h7
      by_cases h10 : (code : Int) = 10
      ·have e10 : ((code : Int) == 10) = true := by rw [h10]; rfl
       have HC7 : Hid (code = 7 \/ code = 10) := zz (by omega)
       clear h7 h10
       go_wp2_with fail
       go_end0
       refine ⟨.ok (stz 11 (pk E n).at_ [] .nil (.mk code at2 num op nm l r ar)) m, HEV.out _ (Ev.then HEV1.out ?_), rfl, ?_⟩
       ·simp only [if_neg HC.out]
        rw [if_pos (show codeOf (.mk code at2 num op nm l r ar) = 7 \/ codeOf (.mk code at2 num op nm l r ar) = 10 from HC7.out)]
        exact Ev.pure (fun e => by cases e) fun _ => rfl
       ·have h5 := (HB3.out.set 0 (.int .i64 (11 : Nat)) (by simp [st0])).set 4 (.pointer (some ⟨b, 0, none⟩)) (by simp [st0])
        rw [pO] at h5
        exact iC h5 (dB (F := fun b => w.heap.size <= b) rfl HX3.out) (fun _ e => e) HR3.out HK3.out mP HS.out HB.out.lt
      ·have e10 : ((code : Int) == 10) = false := beq_eq_false_iff_ne.2 h10
       have HC7 : Hid (¬ (code = 7 \/ code = 10)) := zz (by omega)
       clear h7 h10
       have HF := zz (dC 3 w3 HR3.out)
       go_wp2_with fail
       refine HF.out.mono ?_
       rintro e w4 hth
       have hth2 := hth.with HLT.out HK3.out (fun b e => by have := HS.out; omega)
       obtain ⟨b2, rfl⟩ := aB hth
       refine ⟨rfl, .bad 3 (pk E m).at_, HEV.out _ (Ev.then HEV1.out ?_), hth2⟩
       simp only [if_neg HC.out]
       rw [if_neg (show ¬ (codeOf (.mk code at2 num op nm l r ar) = 7 \/ codeOf (.mk code at2 num op nm l r ar) = 10) from HC7.out)]
       exact Ev.pure (fun e => by cases e) fun _ => rfl
 ·have hki : ¬ ((pk E n).kind : Int) = 1 := by omega
  clear h1 h2 hk HA
  generalize mkT (pk E n).text = T at *
  generalize (pk E n).kind = K at *
  go_enter Tryz.func296, Tryz.ntmps296
  go_wp2_with (go_at_call 153; refine HP.out.mono ?_; rintro e w1 ⟨rfl, hb1⟩)
  have HB1 := zz hb1
  refine (HON.out _ HB1.out).mono ?_
  rintro e w2 ⟨r, hev, hsay⟩
  clear hb1 HP
  cases r with
  | out => exact hsay.elim
  | bad k a =>
   have hsay' : Threw w1 w2 rb k a e := hsay
   obtain ⟨b, rfl⟩ := aB hsay'
   exact ⟨rfl, .bad k a, HEV.out _ (Ev.bad hev), hsay'.with (S := fun _ => False) HLT.out (Keeps.of_new HB1.out) (fun b e => e.elim)⟩
  | ok x m =>
   obtain ⟨v, rfl, hx, hr2, hk2⟩ := hsay
   obtain ⟨o, rfl⟩ := aL hx
   have hnn := lX hev
   have hkw : Keeps (fun b => b = rb \/ b = sb) w w2 := (Keeps.of_new HB1.out).trans (hk2.mono (fun _ _ e => Or.inl e))
   have hB2 := (HB.out.fresh HB1.out).keeps hk2 (fun e => absurd (show sb = rb from e) (by have := HS.out; omega))
   have hx' : ExV w w2 x (.pointer o) := hx.of HB1.out.size
   have hE2 := (HE.out.fresh HB1.out).own hk2
   have HXV := zz hx'
   have HK2 := zz hkw
   have HB2 := zz hB2
   have HE2 := zz hE2
   have HTI := cX ⟨#[60, 45]⟩ (by decide) w2 hr2
   rw [e60] at HTI
   have HI := zz HTI
   have HEV1 := zz hev
   have HNN := zz hnn
   have HSZ := zz hkw.size
   clear hx hx' hr2 hk2 hkw hB2 hE2 HTI hev hnn
   go_wp2_with fail
   by_cases hc : (pk E m).text = aM
   ·have hv : aO E aM m = m + 1 := by unfold aO; rw [if_pos hc]
    rw [hv, decide_eq_true hc] at HI
    have HC := zz hc
    clear hv hc
    refine HI.out.mono ?_
    rintro e w3 ⟨rfl, hr3, hk3⟩
    have hB3 := HB2.out.keeps hk3 (fun e => absurd (show sb = rb from e) (by have := HS.out; omega))
    have hx3 := HXV.out.on HLT.out hk3
    have hk03 := HK2.out.trans (hk3.mono (fun _ _ e => Or.inl e))
    have HB3 := zz hB3
    have HX3 := zz hx3
    have HK3 := zz hk03
    have HXP := zz (k8 (dd := 0) (Nat.zero_le _) (m + 1) w3 hr3 (HE2.out.own hk3))
    clear hr3 hk3 hB3 hx3 hk03
    go_wp2_with fail
    refine HXP.out.mono ?_
    rintro e w4 ⟨r, hev, hsay⟩
    cases r with
    | out => exact hsay.elim
    | bad k a =>
     have hsay' : Threw w3 w4 rb k a e := hsay
     obtain ⟨b, rfl⟩ := aB hsay'
     refine ⟨rfl, .bad k a, HEV.out _ (Ev.then HEV1.out ?_), hsay'.with HLT.out HK3.out (fun b e => by have := HS.out; omega)⟩
     simp only [if_pos HC.out]
     exact Ev.bad hev
    | ok y m2 =>
     obtain ⟨v4, rfl, hx4, hr4, hk4⟩ := hsay
     obtain ⟨o2, rfl⟩ := aL hx4
     have hB4 := HB3.out.keeps hk4 (fun e => absurd (show sb = rb from e) (by have := HS.out; omega))
     have c0 := hB4.at_ 0 _ rfl
     have c3 := hB4.at_ 3 _ rfl
     have c4 := hB4.at_ 4 _ rfl
     have z0 := hB4.free 0
     have z3 := hB4.free 3
     have z4 := hB4.free 4
     have HB4 := zz hB4
     have HX4 := zz hx4
     have HR4 := zz hr4
     have HK4 := zz hk4
     have HEV4 := zz hev
     clear hB4 hx4 hr4 hk4 hev
     go_wp2_with fail
     go_end0
     refine ⟨.ok (stz 3 (pk E n).at_ [] x y) m2, HEV.out _ (Ev.then HEV1.out ?_), rfl, ?_⟩
     ·simp only [if_pos HC.out]
      exact Ev.then HEV4.out (Ev.pure (fun e => by cases e) fun _ => rfl)
     ·have h5 := (((HB4.out.set 0 (.int .i64 (3 : Nat)) (by simp [st0])).set 3 (.pointer o) (by simp [st0])).set 4 (.pointer o2) (by simp [st0]))
      rw [FI] at h5
      exact iC h5 (dB (F := fun b => w.heap.size <= b) (HX3.out.on HLT.out HK4.out) (HX4.out.of HK3.out.size) ) (fun _ e => e) HR4.out (HK3.out.trans (HK4.out.mono (fun _ _ e => Or.inl e))) I2 HS.out HB.out.lt
   ·have hv : aO E aM m = m := by unfold aO; rw [if_neg hc]
    rw [hv, decide_eq_false hc] at HI
    have HC := zz hc
    clear hv hc
    refine HI.out.mono ?_
    rintro e w3 ⟨rfl, hr3, hk3⟩
    have hB3 := HB2.out.keeps hk3 (fun e => absurd (show sb = rb from e) (by have := HS.out; omega))
    have hx3 := HXV.out.on HLT.out hk3
    have hk03 := HK2.out.trans (hk3.mono (fun _ _ e => Or.inl e))
    cases x with
    | nil => exact absurd rfl HNN.out
    | mk code at2 num op nm l r ar =>
     have hx3' := hx3
     obtain ⟨b, lv, rv, av, e, hb, x0, _⟩ := hx3'
     cases e
     have c0 := hB3.at_ 0 _ rfl
     have c4 := hB3.at_ 4 _ rfl
     have z0 := hB3.free 0
     have z4 := hB3.free 4
     have HB3 := zz hB3
     have HX3 := zz hx3
     have HK3 := zz hk03
     have HR3 := zz hr3
     have HSB := zz hb
     have hne : (⟨b, 0, none⟩ : Addr).block ≠ (⟨sb, 0, none⟩ : Addr).block := by have h1 : w.heap.size <= b := hb; have := HB.out.lt; show b ≠ sb; omega
     clear hr3 hk3 hB3 hx3 hk03 hb
     by_cases h7 : (code : Int) = 7
     ·have e7 : ((code : Int) == 7) = true := by rw [h7]; rfl
      have HC7 : Hid (code = 7 \/ code = 10) := zz (by omega)
      clear h7
      go_wp2_with fail
      go_end0
      refine ⟨.ok (stz 11 (pk E n).at_ [] .nil (.mk code at2 num op nm l r ar)) m, HEV.out _ (Ev.then HEV1.out ?_), rfl, ?_⟩
      ·simp only [if_neg HC.out]
       rw [if_pos (show codeOf (.mk code at2 num op nm l r ar) = 7 \/ codeOf (.mk code at2 num op nm l r ar) = 10 from HC7.out)]
       exact Ev.pure (fun e => by cases e) fun _ => rfl
      ·have h5 := (HB3.out.set 0 (.int .i64 (11 : Nat)) (by simp [st0])).set 4 (.pointer (some ⟨b, 0, none⟩)) (by simp [st0])
       rw [pO] at h5
       exact iC h5 (dB (F := fun b => w.heap.size <= b) rfl HX3.out) (fun _ e => e) HR3.out HK3.out mP HS.out HB.out.lt
     ·have e7 : ((code : Int) == 7) = false := beq_eq_false_iff_ne.2 h7
      by_cases h10 : (code : Int) = 10
      ·have e10 : ((code : Int) == 10) = true := by rw [h10]; rfl
       have HC7 : Hid (code = 7 \/ code = 10) := zz (by omega)
       clear h7 h10
       go_wp2_with fail
       go_end0
       refine ⟨.ok (stz 11 (pk E n).at_ [] .nil (.mk code at2 num op nm l r ar)) m, HEV.out _ (Ev.then HEV1.out ?_), rfl, ?_⟩
       ·simp only [if_neg HC.out]
        rw [if_pos (show codeOf (.mk code at2 num op nm l r ar) = 7 \/ codeOf (.mk code at2 num op nm l r ar) = 10 from HC7.out)]
        exact Ev.pure (fun e => by cases e) fun _ => rfl
       ·have h5 := (HB3.out.set 0 (.int .i64 (11 : Nat)) (by simp [st0])).set 4 (.pointer (some ⟨b, 0, none⟩)) (by simp [st0])
        rw [pO] at h5
        exact iC h5 (dB (F := fun b => w.heap.size <= b) rfl HX3.out) (fun _ e => e) HR3.out HK3.out mP HS.out HB.out.lt
      ·have e10 : ((code : Int) == 10) = false := beq_eq_false_iff_ne.2 h10
       have HC7 : Hid (¬ (code = 7 \/ code = 10)) := zz (by omega)
       clear h7 h10
       have HF := zz (dC 3 w3 HR3.out)
       go_wp2_with fail
       refine HF.out.mono ?_
       rintro e w4 hth
       have hth2 := hth.with HLT.out HK3.out (fun b e => by have := HS.out; omega)
       obtain ⟨b2, rfl⟩ := aB hth
       refine ⟨rfl, .bad 3 (pk E m).at_, HEV.out _ (Ev.then HEV1.out ?_), hth2⟩
       simp only [if_neg HC.out]
       rw [if_neg (show ¬ (codeOf (.mk code at2 num op nm l r ar) = 7 \/ codeOf (.mk code at2 num op nm l r ar) = 10) from HC7.out)]
       exact Ev.pure (fun e => by cases e) fun _ => rfl
theorem DE {dep sb : Nat} (w : World) (h : RdAt w rb tv E n dep) (hE : TEnv rb E w) (hB : Blk w sb (st0 (pk E n).at_)) (hs : rb < sb) :
  Calls Tryz.prog 296 #[.pointer (some ⟨rb, 0, none⟩), .pointer (some ⟨sb, 0, none⟩)] w fun e w' => ∃ r, Ev (fun f => cN E f n) r /\ mG w w' rb tv E dep sb r e := by
 by_cases h1 : (pk E n).kind = 1 /\ (pk E (n + 1)).text = iQ
 ·exact rM w h hE hB hs h1
 by_cases h2 : (pk E n).kind = 1 /\ (pk E (n + 1)).text = pW
 ·exact rN w h hE hB hs h1 h2
 ·exact rO w h hE hB hs h1 h2
def wF (E : Env) (f n : Nat) : Res St := if (pk E (n + 1)).kind = 5 \/ (pk E (n + 1)).text = tRb then .ok (stz 8 (pk E n).at_ [] .nil .nil) (n + 1) else (dJ E f 0 (n + 1)).bind fun x m => .ok (stz 8 (pk E n).at_ [] .nil x) m
theorem mB {sb i : Nat} {a : Value} : Keeps (fun q => q = sb) w (w.setCell ⟨sb, i, none⟩ a) := (Keeps.refl (fun q => q = sb) w).setCell (S := fun q => q = sb) (p := ⟨sb, i, none⟩) (Or.inl rfl) a
theorem uO {dep sb : Nat} (w : World) (h : RdAt w rb tv E n dep) (hE : TEnv rb E w) (hB : Blk w sb (st0 (pk E n).at_)) (hs : rb < sb) (ht : (pk E n).text = dH) :
  Calls Tryz.prog 293 #[.pointer (some ⟨rb, 0, none⟩), .pointer (some ⟨sb, 0, none⟩)] w fun e w' => ∃ r, Ev (fun f => wF E f n) r /\ mG w w' rb tv E dep sb r e := by
 have HTK := bM ⟨#[114, 101, 116, 117, 114, 110]⟩ (by decide) w h
 have e1 : (⟨#[114, 101, 116, 117, 114, 110]⟩ : ByteArray).data.toList = dH := rfl
 have e125 : (⟨#[125]⟩ : ByteArray).data.toList = tRb := rfl
 have hv : take E dH n = .ok (pk E n) (n + 1) := by unfold take; rw [if_pos ht]
 rw [e1, hv] at HTK
 have HT := zz HTK
 have HE := zz hE
 have HB := zz hB
 have HS := zz hs
 have HLT := zz h.lt
 clear h hE hB hs ht HTK hv e1
 have hf := aV
 go_enter Tryz.func293, Tryz.ntmps293
 go_wp2_with fail
 refine HT.out.mono ?_
 rintro e w1 ⟨v, rfl, _, hr1, hk1⟩
 have hB1 := HB.out.keeps hk1 (fun e => absurd (show sb = rb from e) (by have := HS.out; omega))
 have c0 := hB1.at_ 0 _ rfl
 have z0 := hB1.free 0
 have hB2 := hB1.set 0 (.int .i64 (8 : Nat)) (by simp [st0])
 have hk2 : Keeps (fun b => b = rb \/ b = sb) w (w1.setCell ⟨sb, 0, none⟩ (.int .i64 (8 : Nat))) := (hk1.mono (fun _ _ e => Or.inl e)).trans (mB.mono (fun _ _ e => Or.inr e))
 have hr2 : RdAt (w1.setCell ⟨sb, 0, none⟩ (.int .i64 (8 : Nat))) rb tv E (n + 1) dep := hr1.two mB HS.out
 have HB2 := zz hB2
 have HK2 := zz hk2
 have HR2 := zz hr2
 have HP := zz (aN _ hr2)
 clear hB1 hB2 hk1 hk2 hr1 hr2
 unfold aR at HP
 generalize hT3 : mkT (pk E (n + 1)).text = T3 at *
 go_wp2_with fail
 refine HP.out.mono ?_
 rintro e w3 ⟨rfl, hb3⟩
 have hB3 := HB2.out.fresh hb3
 have hr3 := HR2.out.fresh hb3
 have hk3 : Keeps (fun b => b = rb \/ b = sb) w w3 := HK2.out.trans (Keeps.of_new hb3)
 have HB3 := zz hB3
 have HR3 := zz hr3
 have HK3 := zz hk3
 clear hB3 hr3 hk3 hb3 c0 z0
 have hEnd : ∀ W, Below w3.heap.size w3 W -> ((pk E (n + 1)).kind = 5 \/ (pk E (n + 1)).text = tRb) -> ∃ r, Ev (fun f => wF E f n) r /\ mG w W rb tv E dep sb r (.returned (.tuple #[])) := fun W hb hc =>
  ⟨.ok (stz 8 (pk E n).at_ [] .nil .nil) (n + 1), Ev.pure (fun e => by cases e) fun f => (by unfold wF; rw [if_pos hc]), rfl, ⟨_, HB3.out.fresh hb, dB rfl rfl⟩, HR3.out.fresh hb, HK3.out.trans (Keeps.of_new hb)⟩
 have HEnd := zz hEnd
 clear hEnd
 by_cases k5 : (pk E (n + 1)).kind = 5
 ·have k5i : ((pk E (n + 1)).kind : Int) = 5 := by omega
  have b5 : (((pk E (n + 1)).kind : Int) != 5) = false := by rw [k5i]; rfl
  have H5 := zz k5
  clear k5 k5i
  go_wp2_with fail
  go_end0
  exact HEnd.out _ (Below.refl _ _) (Or.inl H5.out)
 ·have b5 : (((pk E (n + 1)).kind : Int) != 5) = true := by simp; omega
  have H5 := zz k5
  clear k5
  have HIS := fP ⟨#[125]⟩ w3 HR3.out
  rw [e125] at HIS
  have HI := zz HIS
  clear HIS
  by_cases hrb : (pk E (n + 1)).text = tRb
  ·rw [decide_eq_true hrb] at HI
   have HRB := zz hrb
   clear hrb
   go_wp2_with (go_at_call 110; refine HI.out.mono ?_; rintro e w4 ⟨rfl, hb4⟩)
   go_end0
   exact HEnd.out _ hb4 (Or.inr HRB.out)
  ·rw [decide_eq_false hrb] at HI
   have HRB := zz hrb
   clear hrb HEnd
   have HXP : Hid (∀ W, Below w3.heap.size w3 W -> Calls Tryz.prog 291 #[.pointer (some ⟨rb, 0, none⟩), .int .i64 0] W fun e w' => ∃ r, Ev (fun f => dJ E f 0 (n + 1)) r /\ bL ExV W w' rb tv E dep r e) := zz fun W hb =>
    k8 (dd := 0) (Nat.zero_le _) (n + 1) W (HR3.out.fresh hb) ((HE.out.keeps HK3.out (fun b e => by have := HS.out; omega)).fresh hb)
   go_wp2_with (go_at_call 110; refine HI.out.mono ?_; rintro e w4 ⟨rfl, hb4⟩)
   refine (HXP.out w4 hb4).mono ?_
   rintro e w5 ⟨r, hev, hsay⟩
   have HEV : Hid (Ev (fun f => wF E f n) (r.bind fun x m => .ok (stz 8 (pk E n).at_ [] .nil x) m)) := zz (by
    have h := Ev.map (fun x m => (.ok (stz 8 (pk E n).at_ [] .nil x) m : Res St)) (fun _ _ e => by cases e) hev
    exact ⟨h.1, h.2.imp fun f0 hf f hle => by show wF E f n = _; unfold wF; rw [if_neg (fun e => e.elim H5.out HRB.out)]; exact hf f hle⟩)
   have hk4 : Keeps (fun b => b = rb \/ b = sb) w w4 := HK3.out.trans (Keeps.of_new hb4)
   have hB4 := HB3.out.fresh hb4
   cases r with
   | out => exact hsay.elim
   | bad k a =>
    have hsay' : Threw w4 w5 rb k a e := hsay
    obtain ⟨b, rfl⟩ := aB hsay'
    exact ⟨rfl, _, HEV.out, hsay'.with HLT.out hk4 (fun b e => by have := HS.out; omega)⟩
   | ok x m =>
    obtain ⟨v5, rfl, hx5, hr5, hk5⟩ := hsay
    obtain ⟨o, rfl⟩ := aL hx5
    have hB5 := hB4.keeps hk5 (fun e => absurd (show sb = rb from e) (by have := HS.out; omega))
    have c4 := hB5.at_ 4 _ rfl
    have z4 := hB5.free 4
    have HB5 := zz hB5
    have HX5 := zz hx5
    have HR5 := zz hr5
    have HK5 := zz (hk4.trans (hk5.mono (fun _ _ e => Or.inl e)))
    have HSZ := zz hk4.size
    clear hB4 hB5 hx5 hr5 hk5 hk4 hb4 hev
    go_wp2_with fail
    go_end0
    refine ⟨_, HEV.out, rfl, ?_⟩
    have h5 := HB5.out.set 4 (.pointer o) (by simp [st0])
    exact iC h5 (dB (F := fun b => w.heap.size <= b) rfl (HX5.out.of HSZ.out)) (fun _ e => e) HR5.out HK5.out mB HS.out HB.out.lt
theorem SlAt.mono {F G : Nat -> Prop} (hF : ∀ b, F b -> G b) {v : Value} {k : Nat} (h : SlAt F v k) : SlAt G v k := by
 rcases h with h | ⟨g, cap, a1, a2, a3, a4, a5⟩
 ·exact Or.inl h
 ·exact Or.inr ⟨g, cap, a1, a2, a3, a4, hF g a5⟩
theorem SlAt.form {F : Nat -> Prop} {v : Value} {k : Nat} (h : SlAt F v k) : ∃ a l c, v = .slice a l c := by
 rcases h with ⟨h, _⟩ | ⟨g, cap, h, _⟩
 ·exact ⟨_, _, _, h⟩
 ·exact ⟨_, _, _, h⟩
def StsF (w : World) (F : Nat -> Prop) (l : Sts) (v : Value) : Prop := SlAt F v l.len /\ ∀ g n cap, v = .slice (some ⟨g, 0, none⟩) n cap -> StsIn w F g 0 l
def StsV (w w' : World) (l : Sts) (v : Value) : Prop := StsF w' (fun b => w.heap.size <= b) l v
theorem StsF.keeps {F S : Nat -> Prop} {l : Sts} {v : Value} (h : StsF w F l v) (hk : Keeps S w w') (hF : ∀ b, F b -> ¬ S b) : StsF w' F l v :=
 ⟨h.1, fun g n cap e => StsIn.keeps hk hF g (h.1.mem e) 0 l (h.2 g n cap e)⟩
theorem StsF.mono {F G : Nat -> Prop} (hF : ∀ b, F b -> G b) {l : Sts} {v : Value} (h : StsF w F l v) : StsF w G l v := ⟨h.1.mono hF, fun g n cap e => StsIn.mono hF g 0 l (h.2 g n cap e)⟩
theorem StsV.of {w1 w2 : World} {l : Sts} {v : Value} (h : StsV w1 w2 l v) (hs : w.heap.size <= w1.heap.size) : StsV w w2 l v := StsF.mono (fun _ hb => Nat.le_trans hs hb) h
def kI (rb : Nat) (tv : Value) (E : Env) (dep : Nat) : Prop :=
 ∀ (n : Nat) (w : World), RdAt w rb tv E n dep -> TEnv rb E w -> Calls Tryz.prog 158 #[.pointer (some ⟨rb, 0, none⟩)] w fun e w' => ∃ r, Ev (fun f => Tr.block E f dep n) r /\ bL StsV w w' rb tv E dep r e
def ifV (E : Env) (f dep n : Nat) : Res St := (dJ E f 0 (n + 1)).bind fun x m => (Tr.block E f dep m).bind fun a m2 => if (pk E m2).text = lC then (Tr.block E f dep (m2 + 1)).bind fun b m3 => .ok (.mk 12 (pk E n).at_ [] .nil x a b .nil) m3 else .ok (.mk 12 (pk E n).at_ [] .nil x a .nil .nil) m2
theorem ExIn.of_two {F : Nat -> Prop} {sb : Nat} {v : Value} {x : Ex} (h : ExIn w F v x) (hk : Keeps (fun b => b = sb) w w') (hF : ∀ b, F b -> b ≠ sb) : ExIn w' F v x := ExIn.keeps h hk (fun b hb e => hF b hb e)
theorem yT {dep sb : Nat} (hK : kI rb tv E dep) (w : World) (h : RdAt w rb tv E n dep) (hE : TEnv rb E w) (hB : Blk w sb (st0 (pk E n).at_)) (hs : rb < sb) (ht : (pk E n).text = tIf) :
  Calls Tryz.prog 294 #[.pointer (some ⟨rb, 0, none⟩), .pointer (some ⟨sb, 0, none⟩)] w fun e w' => ∃ r, Ev (fun f => ifV E f dep n) r /\ mG w w' rb tv E dep sb r e := by
 have HTK := bM ⟨#[105, 102]⟩ (by decide) w h
 have e1 : (⟨#[105, 102]⟩ : ByteArray).data.toList = tIf := rfl
 have eElse : (⟨#[101, 108, 115, 101]⟩ : ByteArray).data.toList = lC := rfl
 have hv : take E tIf n = .ok (pk E n) (n + 1) := by unfold take; rw [if_pos ht]
 rw [e1, hv] at HTK
 have HT := zz HTK
 have HE := zz hE
 have HB := zz hB
 have HS := zz hs
 have HLT := zz h.lt
 have HK := zz hK
 have HRS := zz (show ∀ b, (b = rb \/ b = sb) -> rb <= b from fun b e => by omega)
 have HNE := zz (show ¬ sb = rb from by omega)
 clear h hE hB hs ht HTK hv e1 hK
 go_enter Tryz.func294, Tryz.ntmps294
 go_wp2_with fail
 refine HT.out.mono ?_
 rintro e w1 ⟨v, rfl, _, hr1, hk1⟩
 have HB1 := zz (HB.out.keeps hk1 HNE.out)
 have HK1 : Hid (Keeps (fun b => b = rb \/ b = sb) w w1) := zz (hk1.mono (fun _ _ e => Or.inl e))
 have HXP := zz (k8 (dd := 0) (Nat.zero_le _) (n + 1) w1 hr1 (HE.out.own hk1))
 clear hr1 hk1
 go_wp2_with fail
 refine HXP.out.mono ?_
 rintro e w2 ⟨r, hev, hsay⟩
 cases r with
 | out => exact hsay.elim
 | bad k a =>
  have hsay' : Threw w1 w2 rb k a e := hsay
  obtain ⟨b, rfl⟩ := aB hsay'
  exact ⟨rfl, .bad k a, Ev.bad hev, hsay'.with HLT.out HK1.out HRS.out⟩
 | ok x m =>
  obtain ⟨v2, rfl, hx2, hr2, hk2⟩ := hsay
  obtain ⟨o, rfl⟩ := aL hx2
  have hB2 := HB1.out.keeps hk2 HNE.out
  have c0 := hB2.at_ 0 _ rfl
  have c4 := hB2.at_ 4 _ rfl
  have z0 := hB2.free 0
  have z4 := hB2.free 4
  have HEV2 := zz hev
  have hB3 := (hB2.set 0 (.int .i64 (12 : Nat)) (by simp [st0])).set 4 (.pointer o) (by simp [st0])
  have hks := mP (w := w2) (sb := sb) (i := 0) (j := 4) (a := .int .i64 (12 : Nat)) (b := .pointer o)
  have hx3 : ExIn ((w2.setCell ⟨sb, 0, none⟩ (.int .i64 (12 : Nat))).setCell ⟨sb, 4, none⟩ (.pointer o)) (fun b => w.heap.size <= b) (.pointer o) x := (hx2.of HK1.out.size).of_two hks (fun b hb e => by have h1 : w.heap.size <= b := hb; have := HB.out.lt; omega)
  have hr3 := hr2.two hks HS.out
  have hk3 := (HK1.out.trans (hk2.mono (fun _ _ e => Or.inl e))).trans (hks.mono (fun _ _ e => Or.inr e))
  have HB3 := zz hB3
  have HX3 := zz hx3
  have HK3 := zz hk3
  have HBL := zz (HK.out m _ hr3 (HE.out.keeps hk3 HRS.out))
  clear hB2 hB3 hks hx2 hx3 hr2 hr3 hk2 hk3 hev
  go_wp2_with fail
  refine HBL.out.mono ?_
  rintro e w4 ⟨r, hev, hsay⟩
  clear c0 c4 z0 z4
  cases r with
  | out => exact hsay.elim
  | bad k a =>
   have hsay' : Threw _ w4 rb k a e := hsay
   obtain ⟨b, rfl⟩ := aB hsay'
   exact ⟨rfl, .bad k a, Ev.then HEV2.out (Ev.bad hev), hsay'.with HLT.out HK3.out HRS.out⟩
  | ok l m2 =>
   obtain ⟨v4, rfl, hl4, hr4, hk4⟩ := hsay
   obtain ⟨la, ll, lc, rfl⟩ := hl4.1.form
   have hB4 := HB3.out.keeps hk4 HNE.out
   have c5 := hB4.at_ 5 _ rfl
   have z5 := hB4.free 5
   have HEV4 := zz hev
   have hB5 := hB4.set 5 (.slice la ll lc) (by simp [st0])
   have hks := mB (w := w4) (sb := sb) (i := 5) (a := .slice la ll lc)
   have hsz := HK3.out.size
   have hl5 : StsF (w4.setCell ⟨sb, 5, none⟩ (.slice la ll lc)) (fun b => w.heap.size <= b) l (.slice la ll lc) := StsF.keeps (hl4.of hsz) hks (fun b hb e => by have h1 : w.heap.size <= b := hb; have := HB.out.lt; have : b = sb := e; omega)
   have hx5 := (ExIn.keeps HX3.out hk4 (fun b hb e => by have h1 : w.heap.size <= b := hb; have := HLT.out; have : b = rb := e; omega)).of_two hks (fun b hb e => by have h1 : w.heap.size <= b := hb; have := HB.out.lt; omega)
   have hr5 := hr4.two hks HS.out
   have hk5 := (HK3.out.trans (hk4.mono (fun _ _ e => Or.inl e))).trans (hks.mono (fun _ _ e => Or.inr e))
   have HTI := cX ⟨#[101, 108, 115, 101]⟩ (by decide) _ hr5
   rw [eElse] at HTI
   have HI := zz HTI
   have HB5 := zz hB5
   have HX5 := zz hx5
   have HL5 := zz hl5
   have HK5 := zz hk5
   have HE5 := zz (HE.out.keeps hk5 HRS.out)
   clear hB4 hB5 hks hl4 hl5 hx5 hr4 hr5 hk4 hk5 hev HTI hsz
   go_wp2_with fail
   by_cases hc : (pk E m2).text = lC
   ·have hv : aO E lC m2 = m2 + 1 := by unfold aO; rw [if_pos hc]
    rw [hv, decide_eq_true hc] at HI
    have HC := zz hc
    clear hv hc
    refine HI.out.mono ?_
    rintro e w6 ⟨rfl, hr6, hk6⟩
    clear c5 z5
    have hlt0 := HLT.out
    have HB6 := zz (HB5.out.keeps hk6 HNE.out)
    have HX6 := zz (ExIn.keeps HX5.out hk6 (fun b hb e => by have h1 : w.heap.size <= b := hb; have : b = rb := e; omega))
    have HL6 := zz (StsF.keeps HL5.out hk6 (fun b hb e => by have h1 : w.heap.size <= b := hb; have : b = rb := e; omega))
    have HK6 := zz (HK5.out.trans (hk6.mono (fun _ _ e => Or.inl e)))
    have HBL2 := zz (HK.out (m2 + 1) _ hr6 (HE5.out.own hk6))
    clear hr6 hk6
    go_wp2_with fail
    refine HBL2.out.mono ?_
    rintro e w7 ⟨r, hev, hsay⟩
    cases r with
    | out => exact hsay.elim
    | bad k a =>
     have hsay' : Threw _ w7 rb k a e := hsay
     obtain ⟨b, rfl⟩ := aB hsay'
     refine ⟨rfl, .bad k a, Ev.then HEV2.out (Ev.then HEV4.out ?_), hsay'.with HLT.out HK6.out HRS.out⟩
     simp only [if_pos HC.out]
     exact Ev.bad hev
    | ok l2 m3 =>
     obtain ⟨v7, rfl, hl7, hr7, hk7⟩ := hsay
     obtain ⟨ka, kl, kc, rfl⟩ := hl7.1.form
     have hB7 := HB6.out.keeps hk7 HNE.out
     have c6 := hB7.at_ 6 _ rfl
     have z6 := hB7.free 6
     have HEV7 := zz hev
     have HB7 := zz hB7
     have HX7 := zz (ExIn.keeps HX6.out hk7 (fun b hb e => by have h1 : w.heap.size <= b := hb; have : b = rb := e; omega))
     have HL7 := zz (StsF.keeps HL6.out hk7 (fun b hb e => by have h1 : w.heap.size <= b := hb; have : b = rb := e; omega))
     have HM7 := zz (hl7.of HK6.out.size)
     have HR7 := zz hr7
     have HK7 := zz (HK6.out.trans (hk7.mono (fun _ _ e => Or.inl e)))
     clear hB7 hl7 hr7 hk7 hev hlt0
     go_wp2_with fail
     go_end0
     refine ⟨.ok (.mk 12 (pk E n).at_ [] .nil x l l2 .nil) m3, Ev.then HEV2.out (Ev.then HEV4.out ?_), rfl, ?_⟩
     ·simp only [if_pos HC.out]
      exact Ev.then HEV7.out (Ev.pure (fun e => by cases e) fun _ => rfl)
     ·have h8 := HB7.out.set 6 (.slice ka kl kc) (by simp [st0])
      refine iC h8 (F := fun b => w.heap.size <= b) ?_ (fun _ e => e) HR7.out HK7.out mB HS.out HB.out.lt
      exact ⟨_, _, _, _, _, rfl, rfl, HX7.out, HL7.out.1, HL7.out.2, HM7.out.1, HM7.out.2, Or.inl ⟨rfl, rfl⟩, fun g n cap e => by cases e⟩
   ·have hv : aO E lC m2 = m2 := by unfold aO; rw [if_neg hc]
    rw [hv, decide_eq_false hc] at HI
    have HC := zz hc
    clear hv hc
    refine HI.out.mono ?_
    rintro e w6 ⟨rfl, hr6, hk6⟩
    have hlt0 := HLT.out
    have hsl := HB.out.lt
    have HB6 := zz (HB5.out.keeps hk6 HNE.out)
    have HX6 := zz (ExIn.keeps HX5.out hk6 (fun b hb e => by have h1 : w.heap.size <= b := hb; have : b = rb := e; omega))
    have HL6 := zz (StsF.keeps HL5.out hk6 (fun b hb e => by have h1 : w.heap.size <= b := hb; have : b = rb := e; omega))
    have HK6 := zz (HK5.out.trans (hk6.mono (fun _ _ e => Or.inl e)))
    have HR6 := zz hr6
    clear hr6 hk6 hlt0 hsl
    go_wp2_with fail
    go_end0
    refine ⟨.ok (.mk 12 (pk E n).at_ [] .nil x l .nil .nil) m2, Ev.then HEV2.out (Ev.then HEV4.out ?_), rfl, ?_⟩
    ·simp only [if_neg HC.out]
     exact Ev.pure (fun e => by cases e) fun _ => rfl
    ·refine ⟨⟨_, HB6.out, ?_⟩, HR6.out, HK6.out⟩
     exact ⟨_, _, _, _, _, rfl, rfl, HX6.out, HL6.out.1, HL6.out.2, Or.inl ⟨rfl, rfl⟩, fun g n cap e => (by cases e), Or.inl ⟨rfl, rfl⟩, fun g n cap e => by cases e⟩
def lN (E : Env) (cs : Bool) (n : Nat) : Bool := decide ((pk E n).text = tRb \/ (cs = true /\ ((pk E n).text = gM \/ (pk E n).text = bE)))
theorem yU {dep rv : Nat} (w : World) (h : RdAt w rb tv E n dep) (cr : w.cell? ⟨rv, 0, none⟩ = some (.pointer (some ⟨rb, 0, none⟩))) : Calls Tryz.prog 208 #[.pointer (some ⟨rv, 0, none⟩)] w fun e w' => e = .returned (.bool (lN E false n)) /\ Below w.heap.size w w' := by
 have HIS := fP ⟨#[125]⟩ w h
 have e125 : (⟨#[125]⟩ : ByteArray).data.toList = tRb := rfl
 rw [e125] at HIS
 have hv : lN E false n = decide ((pk E n).text = tRb) := by unfold lN; simp
 rw [hv]
 have HI := zz HIS
 clear h HIS hv e125
 generalize decide ((pk E n).text = tRb) = b at *
 go_enter Tryz.func208, Tryz.ntmps208
 go_wp2_with (go_at_call 110; refine HI.out.mono ?_; rintro e w1 ⟨rfl, hb1⟩)
 go_ret
 exact ⟨rfl, hb1⟩
theorem DF {dep rv : Nat} (w : World) (h : RdAt w rb tv E n dep) (cr : w.cell? ⟨rv, 0, none⟩ = some (.pointer (some ⟨rb, 0, none⟩))) : Calls Tryz.prog 315 #[.pointer (some ⟨rv, 0, none⟩)] w fun e w' => e = .returned (.bool (lN E true n)) /\ Below w.heap.size w w' := by
 have e125 : (⟨#[125]⟩ : ByteArray).data.toList = tRb := rfl
 have eC : (⟨#[99, 97, 115, 101]⟩ : ByteArray).data.toList = gM := rfl
 have eD : (⟨#[100, 101, 102, 97, 117, 108, 116]⟩ : ByteArray).data.toList = bE := rfl
 have H1 := fP ⟨#[125]⟩ w h
 rw [e125] at H1
 have HI1 := zz H1
 have HI2 : Hid (∀ W, Below w.heap.size w W -> Calls Tryz.prog 110 #[.pointer (some ⟨rb, 0, none⟩), .string ⟨#[99, 97, 115, 101]⟩] W fun e w' => e = .returned (.bool (decide ((pk E n).text = gM))) /\ Below w.heap.size w w') := zz fun W hb => by
  have h2 := fP ⟨#[99, 97, 115, 101]⟩ W (h.fresh hb)
  rw [eC] at h2
  exact h2.mono fun _ _ ⟨e1, e2⟩ => ⟨e1, hb.trans (e2.mono hb.size)⟩
 have HI3 : Hid (∀ W, Below w.heap.size w W -> Calls Tryz.prog 110 #[.pointer (some ⟨rb, 0, none⟩), .string ⟨#[100, 101, 102, 97, 117, 108, 116]⟩] W fun e w' => e = .returned (.bool (decide ((pk E n).text = bE))) /\ Below w.heap.size w w') := zz fun W hb => by
  have h2 := fP ⟨#[100, 101, 102, 97, 117, 108, 116]⟩ W (h.fresh hb)
  rw [eD] at h2
  exact h2.mono fun _ _ ⟨e1, e2⟩ => ⟨e1, hb.trans (e2.mono hb.size)⟩
 have hv : lN E true n = (decide ((pk E n).text = tRb) || (decide ((pk E n).text = gM) || decide ((pk E n).text = bE))) := by unfold lN; simp
 rw [hv]
 have cellIn : ∀ W, Below w.heap.size w W -> W.cell? ⟨rv, 0, none⟩ = some (.pointer (some ⟨rb, 0, none⟩)) := fun W hb => by
  rw [hb.cell (p := ⟨rv, 0, none⟩) (block_lt_of_cell cr)]; exact cr
 have HCI := zz cellIn
 clear h H1 hv e125 eC eD cellIn
 generalize decide ((pk E n).text = tRb) = b1 at *
 generalize decide ((pk E n).text = gM) = b2 at *
 generalize decide ((pk E n).text = bE) = b3 at *
 cases b1 with
 | true =>
  go_enter Tryz.func315, Tryz.ntmps315
  go_wp2_with (go_at_call 110; refine HI1.out.mono ?_; rintro e w1 ⟨rfl, hb1⟩)
  go_ret
  exact ⟨rfl, hb1⟩
 | false =>
  cases b2 with
  | true =>
   go_enter Tryz.func315, Tryz.ntmps315
   go_wp2_with fail
   refine HI1.out.mono ?_
   rintro e w1 ⟨rfl, hb1⟩
   have cr1 := HCI.out _ hb1
   go_wp2_with fail
   refine (HI2.out _ hb1).mono ?_
   clear hb1 cr1
   rintro e w1 ⟨rfl, hb1⟩
   go_wp2_with fail
   go_ret
   exact ⟨rfl, hb1⟩
  | false =>
   go_enter Tryz.func315, Tryz.ntmps315
   go_wp2_with fail
   refine HI1.out.mono ?_
   rintro e w1 ⟨rfl, hb1⟩
   have cr1 := HCI.out _ hb1
   go_wp2_with fail
   refine (HI2.out _ hb1).mono ?_
   rintro e w2 ⟨rfl, hb2⟩
   have cr2 := HCI.out _ hb2
   go_wp2_with fail
   refine (HI3.out _ hb2).mono ?_
   rintro e w3 ⟨rfl, hb3⟩
   go_wp2_with fail
   go_ret
   exact ⟨by simp, hb3⟩
def RowS (W : World) (F : Nat -> Prop) : List Value -> Sts -> Prop
 | cs, .nil => cs = []
 | cs, .cons s ss => ∃ vs rest, cs = vs ++ rest /\ StC W F vs s /\ RowS W F rest ss
theorem StC.len {F : Nat -> Prop} {vs : List Value} {s : St} (h : StC w F vs s) : vs.length = 8 := by
 cases s with
 | mk => obtain ⟨tv, vv, nv, ev, cv, e, _⟩ := h; rw [e]; rfl
theorem SlAt.monoB {F G : Nat -> Prop} (hF : ∀ b, b < w.heap.size -> F b -> G b) {v : Value} {k : Nat} (h : SlAt F v k) (hl : ∀ g n cap, v = .slice (some ⟨g, 0, none⟩) n cap -> 0 < k -> g < w.heap.size) : SlAt G v k := by
 rcases h with h | ⟨g, cap, a1, a2, a3, a4, a5⟩
 ·exact Or.inl h
 ·exact Or.inr ⟨g, cap, a1, a2, a3, a4, hF g (hl _ _ _ a1 a4) a5⟩
theorem StIn.lt {F : Nat -> Prop} {b o : Nat} {x : St} (h : StIn w F b o x) : b < w.heap.size := by
 cases x with
 | mk => obtain ⟨_, _, _, _, _, c0, _⟩ := h; exact block_lt_of_cell c0
theorem CaIn.lt {F : Nat -> Prop} {b o : Nat} {x : Ca} (h : CaIn w F b o x) : b < w.heap.size := by
 cases x with
 | mk => obtain ⟨_, _, _, c0, _⟩ := h; exact block_lt_of_cell c0
theorem StsIn.lt {F : Nat -> Prop} {g i : Nat} {l : Sts} (h : StsIn w F g i l) (hl : 0 < l.len) : g < w.heap.size := by
 cases l with
 | nil => exact absurd hl (Nat.lt_irrefl _)
 | cons x xs => exact StIn.lt h.1
theorem CasIn.lt {F : Nat -> Prop} {g i : Nat} {l : Cas} (h : CasIn w F g i l) (hl : 0 < l.len) : g < w.heap.size := by
 cases l with
 | nil => exact absurd hl (Nat.lt_irrefl _)
 | cons x xs => exact CaIn.lt h.1
mutual
theorem StIn.monoB {F G : Nat -> Prop} (hF : ∀ b, b < w.heap.size -> F b -> G b) (b o : Nat) : ∀ (x : St), StIn w F b o x -> StIn w G b o x
 | .mk code at_ name dst val thn els cases, h => by
  obtain ⟨tv, vv, nv, ev, cv, c0, c1, c2, c3, c4, c5, c6, c7, h1, h2, h3, h4, h5, h6, h7, h8⟩ := h
  exact ⟨tv, vv, nv, ev, cv, c0, c1, c2, c3, c4, c5, c6, c7, ExIn.mono hF _ _ h1, ExIn.mono hF _ _ h2, h3.monoB hF (fun g n cap e hl => (h4 g n cap e).lt hl), fun g n cap e => StsIn.monoB hF g 0 thn (h4 g n cap e), h5.monoB hF (fun g n cap e hl => (h6 g n cap e).lt hl), fun g n cap e => StsIn.monoB hF g 0 els (h6 g n cap e), h7.monoB hF (fun g n cap e hl => (h8 g n cap e).lt hl), fun g n cap e => CasIn.monoB hF g 0 cases (h8 g n cap e)⟩
theorem StsIn.monoB {F G : Nat -> Prop} (hF : ∀ b, b < w.heap.size -> F b -> G b) (g : Nat) : ∀ (i : Nat) (xs : Sts), StsIn w F g i xs -> StsIn w G g i xs
 | _, .nil, _ => trivial
 | i, .cons x xs, h => ⟨StIn.monoB hF g (i * 8) x h.1, StsIn.monoB hF g (i + 1) xs h.2⟩
theorem CaIn.monoB {F G : Nat -> Prop} (hF : ∀ b, b < w.heap.size -> F b -> G b) (b o : Nat) : ∀ (x : Ca), CaIn w F b o x -> CaIn w G b o x
 | .mk code at_ name dst val body, h => by
  obtain ⟨tv, vv, nv, c0, c1, c2, c3, c4, c5, h1, h2, h3, h4⟩ := h
  exact ⟨tv, vv, nv, c0, c1, c2, c3, c4, c5, ExIn.mono hF _ _ h1, ExIn.mono hF _ _ h2, h3.monoB hF (fun g n cap e hl => (h4 g n cap e).lt hl), fun g n cap e => StsIn.monoB hF g 0 body (h4 g n cap e)⟩
theorem CasIn.monoB {F G : Nat -> Prop} (hF : ∀ b, b < w.heap.size -> F b -> G b) (g : Nat) : ∀ (i : Nat) (xs : Cas), CasIn w F g i xs -> CasIn w G g i xs
 | _, .nil, _ => trivial
 | i, .cons x xs, h => ⟨CaIn.monoB hF g (i * 6) x h.1, CasIn.monoB hF g (i + 1) xs h.2⟩
end
theorem StC.mono {F G : Nat -> Prop} (hF : ∀ b, b < w.heap.size -> F b -> G b) {vs : List Value} {s : St} (h : StC w F vs s) : StC w G vs s := by
 cases s with
 | mk code at_ name dst val thn els cases =>
  obtain ⟨tv, vv, nv, ev, cv, e, h1, h2, h3, h4, h5, h6, h7, h8⟩ := h
  exact ⟨tv, vv, nv, ev, cv, e, ExIn.mono hF _ _ h1, ExIn.mono hF _ _ h2, h3.monoB hF (fun g n cap e hl => (h4 g n cap e).lt hl), fun g n cap e => StsIn.monoB hF g 0 thn (h4 g n cap e), h5.monoB hF (fun g n cap e hl => (h6 g n cap e).lt hl), fun g n cap e => StsIn.monoB hF g 0 els (h6 g n cap e), h7.monoB hF (fun g n cap e hl => (h8 g n cap e).lt hl), fun g n cap e => CasIn.monoB hF g 0 cases (h8 g n cap e)⟩
theorem CaC.mono {F G : Nat -> Prop} (hF : ∀ b, b < w.heap.size -> F b -> G b) {vs : List Value} {s : Ca} (h : CaC w F vs s) : CaC w G vs s := by
 cases s with
 | mk code at_ name dst val body =>
  obtain ⟨tv, vv, nv, e, h1, h2, h3, h4⟩ := h
  exact ⟨tv, vv, nv, e, ExIn.mono hF _ _ h1, ExIn.mono hF _ _ h2, h3.monoB hF (fun g n cap e hl => (h4 g n cap e).lt hl), fun g n cap e => StsIn.monoB hF g 0 body (h4 g n cap e)⟩
theorem RowS.keeps {F S : Nat -> Prop} (hk : Keeps S w w') (hF : ∀ b, F b -> ¬ S b) : ∀ (l : Sts) (cs : List Value), RowS w F cs l -> RowS w' F cs l
 | .nil, _, h => h
 | .cons s ss, cs, h => by
  obtain ⟨vs, rest, e, h1, h2⟩ := h
  exact ⟨vs, rest, e, h1.keeps hk hF, RowS.keeps hk hF ss rest h2⟩
theorem RowS.mono {F G : Nat -> Prop} (hF : ∀ b, b < w.heap.size -> F b -> G b) : ∀ (l : Sts) (cs : List Value), RowS w F cs l -> RowS w G cs l
 | .nil, _, h => h
 | .cons s ss, cs, h => by
  obtain ⟨vs, rest, e, h1, h2⟩ := h
  exact ⟨vs, rest, e, h1.mono hF, RowS.mono hF ss rest h2⟩
theorem RowS.snoc {F : Nat -> Prop} {vs : List Value} {s : St} (hs : StC w F vs s) : ∀ (l : Sts) (cs : List Value), RowS w F cs l -> RowS w F (cs ++ vs) (l.snoc s)
 | .nil, cs, h => by
  have : cs = [] := h
  subst this
  exact ⟨vs, [], by simp, hs, rfl⟩
 | .cons s ss, cs, h => by
  obtain ⟨us, rest, e, h1, h2⟩ := h
  exact ⟨us, rest ++ vs, by rw [e, List.append_assoc], h1, RowS.snoc hs ss rest h2⟩
theorem RowS.lies {F : Nat -> Prop} {g : Nat} : ∀ (l : Sts) (cs : List Value) (i : Nat), (∀ j v, cs[j]? = some v -> w.cell? ⟨g, i * 8 + j, none⟩ = some v) -> RowS w F cs l -> StsIn w F g i l
 | .nil, _, _, _, _ => trivial
 | .cons s ss, cs, i, hc, h => by
  obtain ⟨us, rest, e, h1, h2⟩ := h
  have hl := h1.len
  refine ⟨?_, RowS.lies ss rest (i + 1) (fun j v hj => ?_) h2⟩
  ·cases s with
   | mk code at_ name dst val thn els cases =>
    obtain ⟨tv, vv, nv, ev, cv, e2, h3⟩ := h1
    subst e2
    subst e
    refine ⟨tv, vv, nv, ev, cv, hc 0 _ rfl, hc 1 _ rfl, hc 2 _ rfl, hc 3 _ rfl, hc 4 _ rfl, hc 5 _ rfl, hc 6 _ rfl, hc 7 _ rfl, h3⟩
  ·have h4 := hc (us.length + j) v (by rw [e, List.getElem?_append_right (by omega)]; simpa using hj)
   rw [hl] at h4
   rw [show (i + 1) * 8 + j = i * 8 + (8 + j) by omega]
   exact h4
theorem Sts.len_snoc : ∀ (xs : Sts) (y : St), (xs.snoc y).len = xs.len + 1
 | .nil, _ => rfl
 | .cons _ xs, y => congrArg (· + 1) (Sts.len_snoc xs y)
theorem oJ : (Tryz.prog.info? 71).map (fun i => (i.zero, i.size, i.bytes)) = some (some (.agg #[.int .i64 0, .int .i64 0, .string ByteArray.empty, .pointer none, .pointer none, .slice none 0 0, .slice none 0 0, .slice none 0 0]), 8, 120) := by kernel_rfl
def pG (w w' : World) (s : St) (v : Value) : Prop := ∃ vs : List Value, v = .agg vs.toArray /\ StC w' (fun b => w.heap.size <= b) vs s
def qG (rb : Nat) (tv : Value) (E : Env) (dep : Nat) : Prop :=
 ∀ (n : Nat) (w : World), RdAt w rb tv E n dep -> TEnv rb E w -> Calls Tryz.prog 259 #[.pointer (some ⟨rb, 0, none⟩)] w fun e w' => ∃ r, Ev (fun f => Tr.stmt E f dep n) r /\ bL pG w w' rb tv E dep r e
structure StsJ (w : World) (rb : Nat) (tv : Value) (E : Env) (dep rv : Nat) (G : Res Sts -> Prop) (cs : Bool) (wr : World) (m : Nat) (acc : Sts) (v : Value) : Prop where
 rd : RdAt wr rb tv E m dep
 env : TEnv rb E wr
 kp : Keeps (fun b => b = rb) w wr
 cr : wr.cell? ⟨rv, 0, none⟩ = some (.pointer (some ⟨rb, 0, none⟩))
 row : ∃ vals, wr.ownsRow w.heap.size 71 8 v acc.len vals /\ RowS wr (fun b => w.heap.size <= b /\ some b ≠ v.ownBlock) vals acc
 zero : acc.len = 0 -> v = .slice none 0 0
 al : acc.len <= m
 lo : rv < w.heap.size /\ rv ≠ rb /\ rb < w.heap.size
 ev : ∀ r, Ev (fun f => Tr.stmts E f dep cs acc m) r -> G r
theorem a8 {base : Nat} {e : TypeId} {size : Nat} {v : Value} {k : Nat} {xs : List Value} (h : w.ownsRow base e size v k xs) : ∀ b, v.ownBlock = some b -> base <= b /\ b < w.heap.size := fun b hb => by
 rcases h.2 with ⟨rfl, _⟩ | ⟨g, cap, cur, rfl, hge, hg, _⟩
 ·cases hb
 ·simp only [Value.ownBlock, Option.some.injEq] at hb
  subst hb
  exact ⟨hge, (Array.getElem?_eq_some_iff.1 hg).1⟩
theorem StsJ.on {dep rv m m2 : Nat} {G G2 : Res Sts -> Prop} {cs : Bool} {wr w2 : World} {acc : Sts} {v : Value} (h : StsJ w rb tv E dep rv G cs wr m acc v) (hm : m <= m2) (hk : Keeps (fun b => b = rb) wr w2) (hr : RdAt w2 rb tv E m2 dep)
  (hev : ∀ r, Ev (fun f => Tr.stmts E f dep cs acc m2) r -> G2 r) : StsJ w rb tv E dep rv G2 cs w2 m2 acc v := by
 obtain ⟨vals, h1, h2⟩ := h.row
 have hlo := h.lo
 refine ⟨hr, h.env.own hk, h.kp.trans hk, hk.cell_of h.cr (fun e => hlo.2.1 e), ⟨vals, hk.row h1 (fun b e e2 => by have := (a8 h1 b e).1; have : b = rb := e2; omega), RowS.keeps hk (fun b e e2 => by have := e.1; have : b = rb := e2; omega) _ _ h2⟩, h.zero, Nat.le_trans h.al hm, hlo, hev⟩
theorem StsJ.next {dep rv m m1 : Nat} {G : Res Sts -> Prop} {cs : Bool} {wr w2 w5 : World} {acc : Sts} {v v5 : Value} {vals vs : List Value} {s : St} {o : Obj} (h : StsJ w rb tv E dep rv G cs wr m acc v) (hrow : wr.ownsRow w.heap.size 71 8 v acc.len vals) (hvals : RowS wr (fun b => w.heap.size <= b /\ some b ≠ v.ownBlock) vals acc)
  (hm : m < m1) (hk : Keeps (fun b => b = rb) wr w2) (hr : RdAt w2 rb tv E m1 dep) (hs : StC w2 (fun b => wr.heap.size <= b) vs s) (hg : (w2.alloc o).grownBy w5 v.ownBlock) (ho : w5.ownsRow w.heap.size 71 8 v5 (acc.len + 1) (vals ++ vs))
  (hnew : v5.ownBlock = v.ownBlock \/ v5.ownBlock = some (w2.heap.size + 1)) : StsJ w rb tv E dep rv (fun _ => True) cs w5 m1 (acc.snoc s) v5 := by
 have hlo := h.lo
 have hwr := h.kp.size
 have hw2 := hk.size
 have hk5 : Keeps (fun b => v.ownBlock = some b) w2 w5 := ((Keeps.refl (fun b => v.ownBlock = some b) w2).alloc o).trans' (Keeps.of_grownBy hg (fun k _ e => e)) (fun _ _ e => e)
 have hge := a8 hrow
 refine ⟨hr.keeps hk5 (fun b e => by have := (hge b e).1; omega), (h.env.own hk).keeps hk5 (fun b e => by have := (hge b e).1; omega), (h.kp.trans hk).trans' hk5 (fun i hi e => by have := (hge i e).1; omega), hk5.cell_of (hk.cell_of h.cr (fun e => hlo.2.1 e)) (fun e => by have := (hge rv e).1; omega), ⟨vals ++ vs, by rw [Sts.len_snoc]; exact ho, ?_⟩, fun e => absurd e (by rw [Sts.len_snoc]; omega), by rw [Sts.len_snoc]; have := h.al; omega, hlo, fun _ _ => trivial⟩
 refine RowS.snoc ?_ _ _ ?_
 ·have h1 : StC w2 (fun b => w.heap.size <= b /\ some b ≠ v.ownBlock /\ some b ≠ v5.ownBlock) vs s := StC.mono (fun b hb e => by
   refine ⟨by have : wr.heap.size <= b := e; omega, fun h2 => ?_, fun h2 => ?_⟩
   ·have := (hge b h2.symm).2; have : wr.heap.size <= b := e; omega
   ·rcases hnew with h3 | h3
    ·have := (hge b (by rw [<- h3]; exact h2.symm)).2; have : wr.heap.size <= b := e; omega
    ·rw [h3] at h2; have := Option.some.inj h2; omega) hs
  exact StC.mono (fun b _ e => ⟨e.1, e.2.2⟩) (h1.keeps hk5 (fun b e e2 => e.2.1 e2.symm))
 ·have h1 : RowS w2 (fun b => w.heap.size <= b /\ some b ≠ v.ownBlock /\ some b ≠ v5.ownBlock) vals acc := RowS.mono (fun b hb e => by
   refine ⟨e.1, e.2, fun h2 => ?_⟩
   rcases hnew with h3 | h3
   ·exact e.2 (by rw [<- h3]; exact h2)
   ·rw [h3] at h2; have := Option.some.inj h2; omega) _ _ (RowS.keeps hk (fun b e e2 => by have := e.1; have : b = rb := e2; omega) _ _ hvals)
  exact RowS.mono (fun b _ e => ⟨e.1, e.2.2⟩) _ _ (RowS.keeps hk5 (fun b e e2 => e.2.1 e2.symm) _ _ h1)
theorem StsJ.sts {dep rv m : Nat} {G : Res Sts -> Prop} {cs : Bool} {wr : World} {acc : Sts} {v : Value} (h : StsJ w rb tv E dep rv G cs wr m acc v) : StsV w wr acc v := by
 obtain ⟨vals, h1, h2⟩ := h.row
 refine ⟨?_, fun g k cap e => ?_⟩
 ·by_cases hz : acc.len = 0
  ·exact Or.inl ⟨h.zero hz, hz⟩
  ·rcases h1.2 with ⟨_, e⟩ | ⟨g, cap, cur, e1, e2, _, e3, e4, _⟩
   ·exact absurd e hz
   ·exact Or.inr ⟨g, cap, e1, e3, e4, Nat.pos_of_ne_zero hz, e2⟩
 ·rcases h1.2 with ⟨e2, _⟩ | ⟨g', cap', cur, e2, e3, _⟩
  ·rw [e] at e2; cases e2
  ·rw [e] at e2
   cases e2
   subst e
   refine RowS.lies acc vals 0 (fun j v hj => ?_) (RowS.mono (fun b _ hb => hb.1) _ _ h2)
   rw [show 0 * 8 + j = j by omega, World.ownsRow.cellAt h1 j (by have := (List.getElem?_eq_some_iff.1 hj).1; have := h1.1; omega)]
   exact hj
theorem A8 {cs : Bool} {m : Nat} (h : lN E cs m = false) : ¬ ((pk E m).text = tRb \/ (cs = true /\ ((pk E m).text = gM \/ (pk E m).text = bE))) := of_decide_eq_false h
theorem eR (w : World) (xs : List Value) (t : TypeId) : ∀ j u, xs[j]? = some u -> (w.alloc (.cells xs.toArray t)).cell? ((⟨w.heap.size, 0, none⟩ : Addr).add j) = some u := fun j u h => by
 rw [show (⟨w.heap.size, 0, none⟩ : Addr).add j = ⟨w.heap.size, j, none⟩ from by cases j <;> simp [Addr.add]]
 exact (Blk.new' w xs t rfl).at_ j u h
theorem wG {dep rv : Nat} (hS : qG rb tv E dep) (w : World) (h : RdAt w rb tv E n dep) (hE : TEnv rb E w) (cr : w.cell? ⟨rv, 0, none⟩ = some (.pointer (some ⟨rb, 0, none⟩))) (hne : rv ≠ rb) :
  Calls Tryz.prog 207 #[.pointer (some ⟨rb, 0, none⟩), .func (.func 208) #[] #[.pointer (some ⟨rv, 0, none⟩)]] w fun e w' => ∃ r, Ev (fun f => Tr.stmts E f dep false .nil n) r /\ bL StsV w w' rb tv E dep r e := by
 have HI0 : Hid (StsJ w rb tv E dep rv (fun r => Ev (fun f => Tr.stmts E f dep false .nil n) r) false w n .nil (.slice none 0 0)) := zz ⟨h, hE, Keeps.refl _ _, cr, ⟨[], World.ownsRow_nil _ _ _ _, rfl⟩, fun _ => rfl, Nat.zero_le _, ⟨block_lt_of_cell cr, hne, h.lt⟩, fun _ h => h⟩
 have HS := zz hS
 have HLT := zz h.lt
 have e125 : (⟨#[125]⟩ : ByteArray).data.toList = tRb := rfl
 obtain ⟨i0, hi, hz0, hz1, hz2⟩ := mC oJ
 clear h hE cr hne hS
 go_enter Tryz.func207, Tryz.ntmps207
 go_wp2_with fail
 go_loopw [5] (fun v wr => ∃ m acc u, u = v /\ StsJ w rb tv E dep rv (fun r => Ev (fun f => Tr.stmts E f dep false .nil n) r) false wr m acc u) (fun _ wr => E.toks.length - nG wr rb)
 case atStart => exact ⟨n, .nil, _, rfl, HI0.out⟩
 case round =>
  obtain ⟨m, acc, v, rfl, hj⟩ := hrel
  have HJ := zz hj
  have HST := zz (yU wr hj.rd hj.cr)
  clear hj
  by_cases hst : lN E false m = true
  ·rw [hst] at HST
   have HSV := zz hst
   clear hst
   go_wp2_with fail
   refine HST.out.mono ?_
   rintro e w1 ⟨rfl, hb1⟩
   have hv := (HJ.out.on (Nat.le_refl _) (Keeps.of_new hb1) (HJ.out.rd.fresh hb1) HJ.out.ev)
   have HV := zz hv
   clear hb1 hv
   go_wp2_with fail
   go_ret
   refine ⟨.ok acc m, HJ.out.ev _ (Ev.now (fun e => by cases e) fun f => ?_), _, rfl, HV.out.sts, HV.out.rd, HV.out.kp⟩
   rw [gB, if_pos (show ((pk E m).text = tRb \/ (false = true /\ ((pk E m).text = gM \/ (pk E m).text = bE))) from of_decide_eq_true HSV.out)]
  ·have hst2 : lN E false m = false := by simpa using hst
   rw [hst2] at HST
   have HSV := zz hst2
   clear hst hst2
   go_wp2_with fail
   refine HST.out.mono ?_
   rintro e w1 ⟨rfl, hb1⟩
   have hj1 := (HJ.out.on (Nat.le_refl _) (Keeps.of_new hb1) (HJ.out.rd.fresh hb1) HJ.out.ev)
   have HJ1 := zz hj1
   have HSC := zz (HS.out m w1 hj1.rd hj1.env)
   have HSEQ : Hid (∀ r, Ev (fun f => (Tr.stmt E f dep m).bind fun s m => if (pk E m).text = tRb then Tr.stmts E f dep false (acc.snoc s) m else (aF E 5 m).bind fun _ m2 => Tr.stmts E f dep false (acc.snoc s) m2) r -> Ev (fun f => Tr.stmts E f dep false .nil n) r) := zz fun r hr => HJ.out.ev _ (Ev.step (h := fun f => (Tr.stmt E f dep m).bind fun s m => if (pk E m).text = tRb then Tr.stmts E f dep false (acc.snoc s) m else (aF E 5 m).bind fun _ m2 => Tr.stmts E f dep false (acc.snoc s) m2) (fun f => by rw [gB, if_neg (A8 HSV.out)]) hr)
   clear hb1 hj1
   go_wp2_with fail
   refine HSC.out.mono ?_
   rintro e w2 ⟨r, hev, hsay⟩
   cases r with
   | out => exact hsay.elim
   | bad k a =>
    have hsay' : Threw w1 w2 rb k a e := hsay
    obtain ⟨b, rfl⟩ := aB hsay'
    exact ⟨rfl, .bad k a, HSEQ.out _ (Ev.bad hev), hsay'.own HLT.out HJ1.out.kp⟩
   | ok s m1 =>
    obtain ⟨v2, rfl, ⟨vs, rfl, hc2⟩, hr2, hk2⟩ := hsay
    obtain ⟨vals, hrow, hvals⟩ := HJ1.out.row
    cases s with
    | mk code at_ name dst val thn els css =>
    have hc2' := hc2
    obtain ⟨tv2, vv2, nv2, ev2, cv2, e2, hx1, hx2, hx3, _, hx5, _, hx7, _⟩ := hc2'
    obtain ⟨o1, rfl⟩ := aL hx1
    obtain ⟨o2, rfl⟩ := aL hx2
    obtain ⟨a3, l3, k3, rfl⟩ := hx3.form
    obtain ⟨a5, l5, k5, rfl⟩ := hx5.form
    obtain ⟨a7, l7, k7, rfl⟩ := hx7.form
    have hm1 := pY hev
    have hown2 : w2.ownsRow w.heap.size 71 8 v acc.len vals := hk2.row hrow (fun b e e2 => by have := (a8 hrow b e).1; have := HLT.out; have : b = rb := e2; omega)
    have hsz2 : w.heap.size <= w2.heap.size := Nat.le_trans HJ1.out.kp.size hk2.size
    have hall : acc.len <= 10000 := by have h1 := HJ1.out.al; have h2 := HJ1.out.rd.hn; have h3 := HJ1.out.rd.hl; omega
    have HH1 : Hid (∀ x ∈ vs, x.oneCell' = true) := zz (fun x hx => by rw [e2] at hx; simp at hx; rcases hx with rfl | rfl | rfl | rfl | rfl | rfl | rfl | rfl <;> rfl)
    have HCN := zz (eR w2 vs 71)
    have HML : Hid (acc.len + 1 <= maxLen) := zz (by unfold maxLen; omega)
    have HBY : Hid ((acc.len + 1) * 120 <= 140737488355328) := zz (by omega)
    have HOW := zz hown2
    have HRW := zz hrow
    have HVL := zz hvals
    have HC2 := zz hc2
    have HR2 := zz hr2
    have HK2 := zz hk2
    have HEV := zz hev
    have HM1 := zz hm1
    have HSZ := zz hsz2
    clear hx1 hx2 hx3 hx5 hx7 hc2 hr2 hk2 hev hrow hvals hown2 hm1 hsz2 hall
    subst e2
    go_wp2_with (at_builtin; refine wpList_append_own_at _ rfl _ _ 49 rfl w.heap.size 71 i0 (.agg #[.int .i64 0, .int .i64 0, .string ByteArray.empty, .pointer none, .pointer none, .slice none 0 0, .slice none 0 0, .slice none 0 0]) 8 120 Tryz.underlying49 hi hz0 hz1 hz2 rfl (by decide) _ _ _ rfl (World.ownsRow.alloc HOW.out _) ⟨w2.heap.size, 0, none⟩ 1 1 [.int .i64 (code : Nat), .int .i64 (at_ : Nat), .string (mkT name), .pointer o1, .pointer o2, .slice a3 l3 k3, .slice a5 l5 k5, .slice a7 l7 k7] rfl rfl HCN.out HH1.out HML.out HBY.out (by have := HSZ.out; simp; omega) ?_)
    intro v5 w5 hown5 hgrow _ hnew
    have hev1 : ∀ r, Ev (fun f => if (pk E m1).text = tRb then Tr.stmts E f dep false (acc.snoc (.mk code at_ name dst val thn els css)) m1 else (aF E 5 m1).bind fun _ m2 => Tr.stmts E f dep false (acc.snoc (.mk code at_ name dst val thn els css)) m2) r -> Ev (fun f => Tr.stmts E f dep false .nil n) r := fun r hr => HSEQ.out _ (Ev.then HEV.out hr)
    have hv5 : ∃ ao cap, v5 = .slice ao (acc.len + 1) cap := by
     rcases hown5.2 with ⟨_, h0⟩ | ⟨g, cap, cur, e, _⟩
     ·omega
     ·exact ⟨_, _, e⟩
    obtain ⟨ao5, cap5, rfl⟩ := hv5
    have hj5 := HJ1.out.next HRW.out HVL.out HM1.out HK2.out HR2.out HC2.out hgrow hown5 (by simpa using hnew)
    have HJ5 := zz hj5
    have HEV1 := zz hev1
    have HIS := fP ⟨#[125]⟩ w5 hj5.rd
    rw [e125] at HIS
    have HI := zz HIS
    have HMM := zz (show m < m1 from HM1.out)
    clear hj5 HIS hev1 hown5 hgrow hnew HRW HVL HOW HC2 HCN HH1
    go_wp2_with fail
    by_cases hrb : (pk E m1).text = tRb
    ·rw [decide_eq_true hrb] at HI
     have HRB := zz hrb
     clear hrb
     refine HI.out.mono ?_
     rintro e w6 ⟨rfl, hb6⟩
     have hj6 := HJ5.out.on (G2 := fun r => Ev (fun f => Tr.stmts E f dep false .nil n) r) (Nat.le_refl _) (Keeps.of_new hb6) (HJ5.out.rd.fresh hb6) (fun r hr => HEV1.out r (by simp only [if_pos HRB.out]; exact hr))
     have HJ6 := zz hj6
     clear hb6 hj6
     go_wp2_with fail
     refine ⟨⟨m1, _, _, rfl, HJ6.out⟩, ?_⟩
     have h1 := HJ6.out.rd
     have h2 := HJ.out.rd
     rw [h1.pos, h2.pos]
     have := h1.hn
     have := HMM.out
     omega
    ·rw [decide_eq_false hrb] at HI
     have HRB := zz hrb
     clear hrb
     refine HI.out.mono ?_
     rintro e w6 ⟨rfl, hb6⟩
     have hj6 := HJ5.out.on (G2 := fun _ => True) (Nat.le_refl _) (Keeps.of_new hb6) (HJ5.out.rd.fresh hb6) (fun _ _ => trivial)
     have HJ6 := zz hj6
     have HTK := zz (aX 5 (by decide) w6 hj6.rd)
     clear hb6 hj6
     go_wp2_with fail
     cases ht : aF E 5 m1 with
     | out => exact absurd ht (bR E _ _)
     | bad k a =>
      rw [ht] at HTK
      refine HTK.out.mono ?_
      rintro e w7 hth
      have hth2 := Threw.own hth HLT.out HJ6.out.kp
      obtain ⟨b, rfl⟩ := aB hth
      refine ⟨rfl, .bad k a, HEV1.out _ ?_, hth2⟩
      simp only [if_neg HRB.out, ht]
      exact Ev.pure (fun e => by cases e) fun _ => rfl
     | ok t m2 =>
      rw [ht] at HTK
      refine HTK.out.mono ?_
      rintro e w7 ⟨v7, rfl, _, hr7, hk7⟩
      have hm2 := aS ht
      have hj7 := HJ6.out.on (G2 := fun r => Ev (fun f => Tr.stmts E f dep false .nil n) r) (Nat.le_of_lt hm2) hk7 hr7 (fun r hr => HEV1.out r (by simp only [if_neg HRB.out, ht]; exact hr))
      have HJ7 := zz hj7
      have HM2 := zz hm2
      clear hj7 hr7 hk7 ht hm2
      go_wp2_with fail
      refine ⟨⟨m2, _, _, rfl, HJ7.out⟩, ?_⟩
      have h1 := HJ7.out.rd
      have h2 := HJ.out.rd
      rw [h1.pos, h2.pos]
      have := h1.hn
      have := HMM.out
      have := HM2.out
      omega
theorem qH {dep rv : Nat} (hS : qG rb tv E dep) (w : World) (h : RdAt w rb tv E n dep) (hE : TEnv rb E w) (cr : w.cell? ⟨rv, 0, none⟩ = some (.pointer (some ⟨rb, 0, none⟩))) (hne : rv ≠ rb) :
  Calls Tryz.prog 207 #[.pointer (some ⟨rb, 0, none⟩), .func (.func 315) #[] #[.pointer (some ⟨rv, 0, none⟩)]] w fun e w' => ∃ r, Ev (fun f => Tr.stmts E f dep true .nil n) r /\ bL StsV w w' rb tv E dep r e := by
 have HI0 : Hid (StsJ w rb tv E dep rv (fun r => Ev (fun f => Tr.stmts E f dep true .nil n) r) true w n .nil (.slice none 0 0)) := zz ⟨h, hE, Keeps.refl _ _, cr, ⟨[], World.ownsRow_nil _ _ _ _, rfl⟩, fun _ => rfl, Nat.zero_le _, ⟨block_lt_of_cell cr, hne, h.lt⟩, fun _ h => h⟩
 have HS := zz hS
 have HLT := zz h.lt
 have e125 : (⟨#[125]⟩ : ByteArray).data.toList = tRb := rfl
 obtain ⟨i0, hi, hz0, hz1, hz2⟩ := mC oJ
 clear h hE cr hne hS
 go_enter Tryz.func207, Tryz.ntmps207
 go_wp2_with fail
 go_loopw [5] (fun v wr => ∃ m acc u, u = v /\ StsJ w rb tv E dep rv (fun r => Ev (fun f => Tr.stmts E f dep true .nil n) r) true wr m acc u) (fun _ wr => E.toks.length - nG wr rb)
 case atStart => exact ⟨n, .nil, _, rfl, HI0.out⟩
 case round =>
  obtain ⟨m, acc, v, rfl, hj⟩ := hrel
  have HJ := zz hj
  have HST := zz (DF wr hj.rd hj.cr)
  clear hj
  by_cases hst : lN E true m = true
  ·rw [hst] at HST
   have HSV := zz hst
   clear hst
   go_wp2_with fail
   refine HST.out.mono ?_
   rintro e w1 ⟨rfl, hb1⟩
   have hv := (HJ.out.on (Nat.le_refl _) (Keeps.of_new hb1) (HJ.out.rd.fresh hb1) HJ.out.ev)
   have HV := zz hv
   clear hb1 hv
   go_wp2_with fail
   go_ret
   refine ⟨.ok acc m, HJ.out.ev _ (Ev.now (fun e => by cases e) fun f => ?_), _, rfl, HV.out.sts, HV.out.rd, HV.out.kp⟩
   rw [gB, if_pos (show ((pk E m).text = tRb \/ (true = true /\ ((pk E m).text = gM \/ (pk E m).text = bE))) from of_decide_eq_true HSV.out)]
  ·have hst2 : lN E true m = false := by simpa using hst
   rw [hst2] at HST
   have HSV := zz hst2
   clear hst hst2
   go_wp2_with fail
   refine HST.out.mono ?_
   rintro e w1 ⟨rfl, hb1⟩
   have hj1 := (HJ.out.on (Nat.le_refl _) (Keeps.of_new hb1) (HJ.out.rd.fresh hb1) HJ.out.ev)
   have HJ1 := zz hj1
   have HSC := zz (HS.out m w1 hj1.rd hj1.env)
   have HSEQ : Hid (∀ r, Ev (fun f => (Tr.stmt E f dep m).bind fun s m => if (pk E m).text = tRb then Tr.stmts E f dep true (acc.snoc s) m else (aF E 5 m).bind fun _ m2 => Tr.stmts E f dep true (acc.snoc s) m2) r -> Ev (fun f => Tr.stmts E f dep true .nil n) r) := zz fun r hr => HJ.out.ev _ (Ev.step (h := fun f => (Tr.stmt E f dep m).bind fun s m => if (pk E m).text = tRb then Tr.stmts E f dep true (acc.snoc s) m else (aF E 5 m).bind fun _ m2 => Tr.stmts E f dep true (acc.snoc s) m2) (fun f => by rw [gB, if_neg (A8 HSV.out)]) hr)
   clear hb1 hj1
   go_wp2_with fail
   refine HSC.out.mono ?_
   rintro e w2 ⟨r, hev, hsay⟩
   cases r with
   | out => exact hsay.elim
   | bad k a =>
    have hsay' : Threw w1 w2 rb k a e := hsay
    obtain ⟨b, rfl⟩ := aB hsay'
    exact ⟨rfl, .bad k a, HSEQ.out _ (Ev.bad hev), hsay'.own HLT.out HJ1.out.kp⟩
   | ok s m1 =>
    obtain ⟨v2, rfl, ⟨vs, rfl, hc2⟩, hr2, hk2⟩ := hsay
    obtain ⟨vals, hrow, hvals⟩ := HJ1.out.row
    cases s with
    | mk code at_ name dst val thn els css =>
    have hc2' := hc2
    obtain ⟨tv2, vv2, nv2, ev2, cv2, e2, hx1, hx2, hx3, _, hx5, _, hx7, _⟩ := hc2'
    obtain ⟨o1, rfl⟩ := aL hx1
    obtain ⟨o2, rfl⟩ := aL hx2
    obtain ⟨a3, l3, k3, rfl⟩ := hx3.form
    obtain ⟨a5, l5, k5, rfl⟩ := hx5.form
    obtain ⟨a7, l7, k7, rfl⟩ := hx7.form
    have hm1 := pY hev
    have hown2 : w2.ownsRow w.heap.size 71 8 v acc.len vals := hk2.row hrow (fun b e e2 => by have := (a8 hrow b e).1; have := HLT.out; have : b = rb := e2; omega)
    have hsz2 : w.heap.size <= w2.heap.size := Nat.le_trans HJ1.out.kp.size hk2.size
    have hall : acc.len <= 10000 := by have h1 := HJ1.out.al; have h2 := HJ1.out.rd.hn; have h3 := HJ1.out.rd.hl; omega
    have HH1 : Hid (∀ x ∈ vs, x.oneCell' = true) := zz (fun x hx => by rw [e2] at hx; simp at hx; rcases hx with rfl | rfl | rfl | rfl | rfl | rfl | rfl | rfl <;> rfl)
    have HCN := zz (eR w2 vs 71)
    have HML : Hid (acc.len + 1 <= maxLen) := zz (by unfold maxLen; omega)
    have HBY : Hid ((acc.len + 1) * 120 <= 140737488355328) := zz (by omega)
    have HOW := zz hown2
    have HRW := zz hrow
    have HVL := zz hvals
    have HC2 := zz hc2
    have HR2 := zz hr2
    have HK2 := zz hk2
    have HEV := zz hev
    have HM1 := zz hm1
    have HSZ := zz hsz2
    clear hx1 hx2 hx3 hx5 hx7 hc2 hr2 hk2 hev hrow hvals hown2 hm1 hsz2 hall
    subst e2
    go_wp2_with (at_builtin; refine wpList_append_own_at _ rfl _ _ 49 rfl w.heap.size 71 i0 (.agg #[.int .i64 0, .int .i64 0, .string ByteArray.empty, .pointer none, .pointer none, .slice none 0 0, .slice none 0 0, .slice none 0 0]) 8 120 Tryz.underlying49 hi hz0 hz1 hz2 rfl (by decide) _ _ _ rfl (World.ownsRow.alloc HOW.out _) ⟨w2.heap.size, 0, none⟩ 1 1 [.int .i64 (code : Nat), .int .i64 (at_ : Nat), .string (mkT name), .pointer o1, .pointer o2, .slice a3 l3 k3, .slice a5 l5 k5, .slice a7 l7 k7] rfl rfl HCN.out HH1.out HML.out HBY.out (by have := HSZ.out; simp; omega) ?_)
    intro v5 w5 hown5 hgrow _ hnew
    have hev1 : ∀ r, Ev (fun f => if (pk E m1).text = tRb then Tr.stmts E f dep true (acc.snoc (.mk code at_ name dst val thn els css)) m1 else (aF E 5 m1).bind fun _ m2 => Tr.stmts E f dep true (acc.snoc (.mk code at_ name dst val thn els css)) m2) r -> Ev (fun f => Tr.stmts E f dep true .nil n) r := fun r hr => HSEQ.out _ (Ev.then HEV.out hr)
    have hv5 : ∃ ao cap, v5 = .slice ao (acc.len + 1) cap := by
     rcases hown5.2 with ⟨_, h0⟩ | ⟨g, cap, cur, e, _⟩
     ·omega
     ·exact ⟨_, _, e⟩
    obtain ⟨ao5, cap5, rfl⟩ := hv5
    have hj5 := HJ1.out.next HRW.out HVL.out HM1.out HK2.out HR2.out HC2.out hgrow hown5 (by simpa using hnew)
    have HJ5 := zz hj5
    have HEV1 := zz hev1
    have HIS := fP ⟨#[125]⟩ w5 hj5.rd
    rw [e125] at HIS
    have HI := zz HIS
    have HMM := zz (show m < m1 from HM1.out)
    clear hj5 HIS hev1 hown5 hgrow hnew HRW HVL HOW HC2 HCN HH1
    go_wp2_with fail
    by_cases hrb : (pk E m1).text = tRb
    ·rw [decide_eq_true hrb] at HI
     have HRB := zz hrb
     clear hrb
     refine HI.out.mono ?_
     rintro e w6 ⟨rfl, hb6⟩
     have hj6 := HJ5.out.on (G2 := fun r => Ev (fun f => Tr.stmts E f dep true .nil n) r) (Nat.le_refl _) (Keeps.of_new hb6) (HJ5.out.rd.fresh hb6) (fun r hr => HEV1.out r (by simp only [if_pos HRB.out]; exact hr))
     have HJ6 := zz hj6
     clear hb6 hj6
     go_wp2_with fail
     refine ⟨⟨m1, _, _, rfl, HJ6.out⟩, ?_⟩
     have h1 := HJ6.out.rd
     have h2 := HJ.out.rd
     rw [h1.pos, h2.pos]
     have := h1.hn
     have := HMM.out
     omega
    ·rw [decide_eq_false hrb] at HI
     have HRB := zz hrb
     clear hrb
     refine HI.out.mono ?_
     rintro e w6 ⟨rfl, hb6⟩
     have hj6 := HJ5.out.on (G2 := fun _ => True) (Nat.le_refl _) (Keeps.of_new hb6) (HJ5.out.rd.fresh hb6) (fun _ _ => trivial)
     have HJ6 := zz hj6
     have HTK := zz (aX 5 (by decide) w6 hj6.rd)
     clear hb6 hj6
     go_wp2_with fail
     cases ht : aF E 5 m1 with
     | out => exact absurd ht (bR E _ _)
     | bad k a =>
      rw [ht] at HTK
      refine HTK.out.mono ?_
      rintro e w7 hth
      have hth2 := Threw.own hth HLT.out HJ6.out.kp
      obtain ⟨b, rfl⟩ := aB hth
      refine ⟨rfl, .bad k a, HEV1.out _ ?_, hth2⟩
      simp only [if_neg HRB.out, ht]
      exact Ev.pure (fun e => by cases e) fun _ => rfl
     | ok t m2 =>
      rw [ht] at HTK
      refine HTK.out.mono ?_
      rintro e w7 ⟨v7, rfl, _, hr7, hk7⟩
      have hm2 := aS ht
      have hj7 := HJ6.out.on (G2 := fun r => Ev (fun f => Tr.stmts E f dep true .nil n) r) (Nat.le_of_lt hm2) hk7 hr7 (fun r hr => HEV1.out r (by simp only [if_neg HRB.out, ht]; exact hr))
      have HJ7 := zz hj7
      have HM2 := zz hm2
      clear hj7 hr7 hk7 ht hm2
      go_wp2_with fail
      refine ⟨⟨m2, _, _, rfl, HJ7.out⟩, ?_⟩
      have h1 := HJ7.out.rd
      have h2 := HJ.out.rd
      rw [h1.pos, h2.pos]
      have := h1.hn
      have := HMM.out
      have := HM2.out
      omega
def uP {α : Type} (E : Env) (dep n : Nat) (R : Nat -> Res α -> Prop) (r : Res α) : Prop :=
 (∃ k a, cR E dep n = .bad k a /\ r = .bad k a) \/ ∃ t n1, cR E dep n = .ok t n1 /\ ((∃ k a, R n1 (.bad k a) /\ r = .bad k a) \/ ∃ x n2, R n1 (.ok x n2) /\ r = (take E tRb n2).bind fun _ n3 => .ok x n3)
def I3 {α : Type} (w : World) (rb : Nat) (tv : Value) (E : Env) (dep : Nat) (F : FuncId) (caps : Array Value) (S : Nat -> Prop) (R : Nat -> Res α -> Prop) (V : World -> World -> α -> Prop) : Prop :=
 ∀ W n1, Keeps (fun b => b = rb) w W -> RdAt W rb tv E n1 (dep + 1) -> Calls Tryz.prog F caps W fun e W' => ∃ r : Res α, R n1 r /\ match r with
  | .ok x m => e = .returned (.tuple #[]) /\ V W W' x /\ RdAt W' rb tv E m (dep + 1) /\ Keeps S W W'
  | .bad k a => Threw W W' rb k a e
  | .out => False
theorem kJ (v : Value) : Keeps (fun b => b = rb) w (w.setCell ⟨rb, 3, none⟩ v) := (Keeps.refl (fun b => b = rb) w).setCell (S := fun b => b = rb) (p := ⟨rb, 3, none⟩) (Or.inl rfl) v
theorem uQ {α : Type} {dep : Nat} {caps : Array Value} {S : Nat -> Prop} {R : Nat -> Res α -> Prop} {V : World -> World -> α -> Prop} (w : World) (h : RdAt w rb tv E n dep) (hI : dep < 12 -> I3 w rb tv E dep 206 caps S R V) (hS : S rb) (hS2 : ∀ b, S b -> rb <= b) :
  Calls Tryz.prog 205 #[.pointer (some ⟨rb, 0, none⟩), .func (.func 206) #[] caps] w fun e w' => ∃ r : Res α, uP E dep n R r /\ match r with
   | .ok x m => e = .returned (.tuple #[]) /\ (∃ W W1, Keeps (fun b => b = rb) w W /\ V W W1 x /\ Keeps (fun b => b = rb) W1 w') /\ RdAt w' rb tv E m dep /\ Keeps S w w'
   | .bad k a => Threw w w' rb k a e
   | .out => False := by
 have e123 : (⟨#[123]⟩ : ByteArray).data.toList = tLb := rfl
 have e125 : (⟨#[125]⟩ : ByteArray).data.toList = tRb := rfl
 have HIS := fP ⟨#[123]⟩ w h
 rw [e123] at HIS
 have HI := zz HIS
 have H0 := zz h
 have HLT := zz h.lt
 have HN := zz hI
 have HSR := zz hS
 have HS2 := zz hS2
 have HKS : Hid (∀ W W' : World, Keeps (fun b => b = rb) W W' -> Keeps S W W') := zz fun W W' hk => hk.mono (fun b _ e => by have e' : b = rb := e; rw [e']; exact HSR.out)
 clear h HIS hI hS hS2
 by_cases hlb : (pk E n).text = tLb
 ·rw [decide_eq_true hlb] at HI
  have HLB := zz hlb
  clear hlb
  by_cases hd : 12 <= dep
  ·have HO : Hid (cR E dep n = .bad 4 (pk E n).at_) := zz (by unfold cR; rw [if_pos ⟨HLB.out, hd⟩]; rfl)
   have hdi : (12 : Int) <= (dep : Int) := by omega
   clear hd
   go_enter Tryz.func205, Tryz.ntmps205
   go_wp2_with (go_at_call 110; refine HI.out.mono ?_; rintro e w1 ⟨rfl, hb1⟩; have c3 := (H0.out.fresh hb1).c3)
   refine (dC 4 w1 (H0.out.fresh hb1)).mono ?_
   rintro e w2 hth
   have hth2 := hth.own HLT.out (Keeps.of_new hb1)
   obtain ⟨b, rfl⟩ := aB hth
   exact ⟨rfl, .bad 4 _, Or.inl ⟨_, _, HO.out, rfl⟩, hth2⟩
  ·have HD := zz (show dep < 12 by omega)
   have hdi : ¬ (12 : Int) <= (dep : Int) := by omega
   have HO : Hid (cR E dep n = .ok (pk E n) (n + 1)) := zz (by unfold cR; rw [if_neg (fun e => hd e.2)]; unfold take; rw [if_pos HLB.out])
   have hw : IntKind.i64.wrap ((dep : Int) + 1) = (dep : Int) + 1 := IntWalk.i64_in _ (by omega)
   have hw2 : IntKind.i64.wrap ((dep : Int) + 1 - 1) = (dep : Int) := by rw [show (dep : Int) + 1 - 1 = (dep : Int) by omega]; exact IntWalk.i64_in _ (by omega)
   have HTK : Hid (∀ W, Below w.heap.size w W -> Calls Tryz.prog 154 #[.pointer (some ⟨rb, 0, none⟩), .string ⟨#[123]⟩] W fun e w' => bL jL W w' rb tv E dep (.ok (pk E n) (n + 1)) e) := zz fun W hb => by
    have h1 := bM ⟨#[123]⟩ (by decide) W (H0.out.fresh hb)
    have h2 : take E tLb n = .ok (pk E n) (n + 1) := by unfold take; rw [if_pos HLB.out]
    rw [e123, h2] at h1
    exact h1
   clear hd
   go_enter Tryz.func205, Tryz.ntmps205
   go_wp2_with (go_at_call 110; refine HI.out.mono ?_; rintro e w1 ⟨rfl, hb1⟩; have c3 := (H0.out.fresh hb1).c3)
   refine (HTK.out w1 hb1).mono ?_
   rintro e w2 ⟨v2, rfl, _, hr2, hk2⟩
   have hk02 := (Keeps.of_new hb1).trans hk2
   have c32 := hr2.c3
   have z32 := hr2.z3
   have hr3 := hr2.set3 (dep + 1) (by have := HD.out; omega)
   have hk3 := hk02.trans (kJ (w := w2) (rb := rb) (.int .i64 ((dep + 1 : Nat) : Int)))
   have HIN := (HN.out HD.out) _ (n + 1) hk3 hr3
   rw [Int.natCast_add] at HIN
   have HIN2 := zz HIN
   have HK3 := zz hk3
   clear c3 hb1 hr2 hr3 hk2 hk3 hk02 HIN HTK HI
   go_wp2_with fail
   refine HIN2.out.mono ?_
   rintro e w4 ⟨r, hR, hsay⟩
   clear c32 z32
   have hk3' : Keeps (fun b => b = rb) w (w2.setCell ⟨rb, 3, none⟩ (.int .i64 ((dep : Int) + 1))) := by have := HK3.out; rw [Int.natCast_add] at this; exact this
   cases r with
   | out => exact hsay.elim
   | bad k a =>
    have hsay' : Threw _ w4 rb k a e := hsay
    obtain ⟨b, rfl⟩ := aB hsay'
    exact ⟨rfl, .bad k a, Or.inr ⟨_, _, HO.out, Or.inl ⟨k, a, hR, rfl⟩⟩, hsay'.own HLT.out hk3'⟩
   | ok x m =>
    obtain ⟨rfl, hV, hr4, hk4⟩ := hsay
    have c34 := hr4.c3
    rw [Int.natCast_add] at c34
    have z34 := hr4.z3
    have hr5 := hr4.set3 dep (by have := HD.out; omega)
    have hks5 := kJ (w := w4) (rb := rb) (.int .i64 (dep : Int))
    have hk5 := ((HKS.out _ _ hk3').trans hk4).trans (HKS.out _ _ hks5)
    have HTK2 := bM ⟨#[125]⟩ (by decide) _ hr5
    rw [e125] at HTK2
    have HT2 := zz HTK2
    have HRR := zz hR
    have HVV := zz hV
    have HK3' := zz hk3'
    have HK5 := zz hk5
    have HKS5 := zz hks5
    clear hr4 hr5 hk4 hk5 hks5 HTK2 hR hV hk3'
    go_wp2_with fail
    cases ht : take E tRb m with
    | out => exact absurd ht (cZ E _ _)
    | bad k a =>
     rw [ht] at HT2
     refine HT2.out.mono ?_
     rintro e w6 hth
     have hth2 := Threw.with hth HLT.out HK5.out HS2.out
     obtain ⟨b, rfl⟩ := aB hth
     exact ⟨rfl, .bad k a, Or.inr ⟨_, _, HO.out, Or.inr ⟨x, m, HRR.out, by rw [ht]; rfl⟩⟩, hth2⟩
    | ok t m2 =>
     rw [ht] at HT2
     refine HT2.out.mono ?_
     rintro e w6 ⟨v6, rfl, _, hr6, hk6⟩
     have HR6 := zz hr6
     have HK6 := zz hk6
     have HTT := zz ht
     clear hr6 hk6 ht
     go_wp2_with fail
     go_end0
     exact ⟨.ok x m2, Or.inr ⟨_, _, HO.out, Or.inr ⟨x, m, HRR.out, by rw [HTT.out]; rfl⟩⟩, rfl, ⟨_, _, HK3'.out, HVV.out, HKS5.out.trans HK6.out⟩, HR6.out, HK5.out.trans (HKS.out _ _ HK6.out)⟩
 ·rw [decide_eq_false hlb] at HI
  have HO : Hid (cR E dep n = .bad 3 (pk E n).at_) := zz (by unfold cR; rw [if_neg (fun e => hlb e.1)]; unfold take; rw [if_neg hlb]; rfl)
  have HTK : Hid (∀ W, Below w.heap.size w W -> Calls Tryz.prog 154 #[.pointer (some ⟨rb, 0, none⟩), .string ⟨#[123]⟩] W fun e w' => Threw W w' rb 3 (pk E n).at_ e) := zz fun W hb => by
   have h1 := bM ⟨#[123]⟩ (by decide) W (H0.out.fresh hb)
   have h2 : take E tLb n = .bad 3 (pk E n).at_ := by unfold take; rw [if_neg hlb]; rfl
   rw [e123, h2] at h1
   exact h1
  clear hlb
  go_enter Tryz.func205, Tryz.ntmps205
  go_wp2_with (go_at_call 110; refine HI.out.mono ?_; rintro e w1 ⟨rfl, hb1⟩)
  refine (HTK.out w1 hb1).mono ?_
  rintro e w2 hth
  have hth2 := hth.own HLT.out (Keeps.of_new hb1)
  obtain ⟨b, rfl⟩ := aB hth
  exact ⟨rfl, .bad 3 _, Or.inl ⟨_, _, HO.out, rfl⟩, hth2⟩
theorem rP {α : Type} {dep : Nat} {caps : Array Value} {S : Nat -> Prop} {R : Nat -> Res α -> Prop} {V : World -> World -> α -> Prop} (w : World) (h : RdAt w rb tv E n dep) (hI : dep < 12 -> I3 w rb tv E dep 308 caps S R V) (hS : S rb) (hS2 : ∀ b, S b -> rb <= b) :
  Calls Tryz.prog 205 #[.pointer (some ⟨rb, 0, none⟩), .func (.func 308) #[] caps] w fun e w' => ∃ r : Res α, uP E dep n R r /\ match r with
   | .ok x m => e = .returned (.tuple #[]) /\ (∃ W W1, Keeps (fun b => b = rb) w W /\ V W W1 x /\ Keeps (fun b => b = rb) W1 w') /\ RdAt w' rb tv E m dep /\ Keeps S w w'
   | .bad k a => Threw w w' rb k a e
   | .out => False := by
 have e123 : (⟨#[123]⟩ : ByteArray).data.toList = tLb := rfl
 have e125 : (⟨#[125]⟩ : ByteArray).data.toList = tRb := rfl
 have HIS := fP ⟨#[123]⟩ w h
 rw [e123] at HIS
 have HI := zz HIS
 have H0 := zz h
 have HLT := zz h.lt
 have HN := zz hI
 have HSR := zz hS
 have HS2 := zz hS2
 have HKS : Hid (∀ W W' : World, Keeps (fun b => b = rb) W W' -> Keeps S W W') := zz fun W W' hk => hk.mono (fun b _ e => by have e' : b = rb := e; rw [e']; exact HSR.out)
 clear h HIS hI hS hS2
 by_cases hlb : (pk E n).text = tLb
 ·rw [decide_eq_true hlb] at HI
  have HLB := zz hlb
  clear hlb
  by_cases hd : 12 <= dep
  ·have HO : Hid (cR E dep n = .bad 4 (pk E n).at_) := zz (by unfold cR; rw [if_pos ⟨HLB.out, hd⟩]; rfl)
   have hdi : (12 : Int) <= (dep : Int) := by omega
   clear hd
   go_enter Tryz.func205, Tryz.ntmps205
   go_wp2_with (go_at_call 110; refine HI.out.mono ?_; rintro e w1 ⟨rfl, hb1⟩; have c3 := (H0.out.fresh hb1).c3)
   refine (dC 4 w1 (H0.out.fresh hb1)).mono ?_
   rintro e w2 hth
   have hth2 := hth.own HLT.out (Keeps.of_new hb1)
   obtain ⟨b, rfl⟩ := aB hth
   exact ⟨rfl, .bad 4 _, Or.inl ⟨_, _, HO.out, rfl⟩, hth2⟩
  ·have HD := zz (show dep < 12 by omega)
   have hdi : ¬ (12 : Int) <= (dep : Int) := by omega
   have HO : Hid (cR E dep n = .ok (pk E n) (n + 1)) := zz (by unfold cR; rw [if_neg (fun e => hd e.2)]; unfold take; rw [if_pos HLB.out])
   have hw : IntKind.i64.wrap ((dep : Int) + 1) = (dep : Int) + 1 := IntWalk.i64_in _ (by omega)
   have hw2 : IntKind.i64.wrap ((dep : Int) + 1 - 1) = (dep : Int) := by rw [show (dep : Int) + 1 - 1 = (dep : Int) by omega]; exact IntWalk.i64_in _ (by omega)
   have HTK : Hid (∀ W, Below w.heap.size w W -> Calls Tryz.prog 154 #[.pointer (some ⟨rb, 0, none⟩), .string ⟨#[123]⟩] W fun e w' => bL jL W w' rb tv E dep (.ok (pk E n) (n + 1)) e) := zz fun W hb => by
    have h1 := bM ⟨#[123]⟩ (by decide) W (H0.out.fresh hb)
    have h2 : take E tLb n = .ok (pk E n) (n + 1) := by unfold take; rw [if_pos HLB.out]
    rw [e123, h2] at h1
    exact h1
   clear hd
   go_enter Tryz.func205, Tryz.ntmps205
   go_wp2_with (go_at_call 110; refine HI.out.mono ?_; rintro e w1 ⟨rfl, hb1⟩; have c3 := (H0.out.fresh hb1).c3)
   refine (HTK.out w1 hb1).mono ?_
   rintro e w2 ⟨v2, rfl, _, hr2, hk2⟩
   have hk02 := (Keeps.of_new hb1).trans hk2
   have c32 := hr2.c3
   have z32 := hr2.z3
   have hr3 := hr2.set3 (dep + 1) (by have := HD.out; omega)
   have hk3 := hk02.trans (kJ (w := w2) (rb := rb) (.int .i64 ((dep + 1 : Nat) : Int)))
   have HIN := (HN.out HD.out) _ (n + 1) hk3 hr3
   rw [Int.natCast_add] at HIN
   have HIN2 := zz HIN
   have HK3 := zz hk3
   clear c3 hb1 hr2 hr3 hk2 hk3 hk02 HIN HTK HI
   go_wp2_with fail
   refine HIN2.out.mono ?_
   rintro e w4 ⟨r, hR, hsay⟩
   clear c32 z32
   have hk3' : Keeps (fun b => b = rb) w (w2.setCell ⟨rb, 3, none⟩ (.int .i64 ((dep : Int) + 1))) := by have := HK3.out; rw [Int.natCast_add] at this; exact this
   cases r with
   | out => exact hsay.elim
   | bad k a =>
    have hsay' : Threw _ w4 rb k a e := hsay
    obtain ⟨b, rfl⟩ := aB hsay'
    exact ⟨rfl, .bad k a, Or.inr ⟨_, _, HO.out, Or.inl ⟨k, a, hR, rfl⟩⟩, hsay'.own HLT.out hk3'⟩
   | ok x m =>
    obtain ⟨rfl, hV, hr4, hk4⟩ := hsay
    have c34 := hr4.c3
    rw [Int.natCast_add] at c34
    have z34 := hr4.z3
    have hr5 := hr4.set3 dep (by have := HD.out; omega)
    have hks5 := kJ (w := w4) (rb := rb) (.int .i64 (dep : Int))
    have hk5 := ((HKS.out _ _ hk3').trans hk4).trans (HKS.out _ _ hks5)
    have HTK2 := bM ⟨#[125]⟩ (by decide) _ hr5
    rw [e125] at HTK2
    have HT2 := zz HTK2
    have HRR := zz hR
    have HVV := zz hV
    have HK3' := zz hk3'
    have HK5 := zz hk5
    have HKS5 := zz hks5
    clear hr4 hr5 hk4 hk5 hks5 HTK2 hR hV hk3'
    go_wp2_with fail
    cases ht : take E tRb m with
    | out => exact absurd ht (cZ E _ _)
    | bad k a =>
     rw [ht] at HT2
     refine HT2.out.mono ?_
     rintro e w6 hth
     have hth2 := Threw.with hth HLT.out HK5.out HS2.out
     obtain ⟨b, rfl⟩ := aB hth
     exact ⟨rfl, .bad k a, Or.inr ⟨_, _, HO.out, Or.inr ⟨x, m, HRR.out, by rw [ht]; rfl⟩⟩, hth2⟩
    | ok t m2 =>
     rw [ht] at HT2
     refine HT2.out.mono ?_
     rintro e w6 ⟨v6, rfl, _, hr6, hk6⟩
     have HR6 := zz hr6
     have HK6 := zz hk6
     have HTT := zz ht
     clear hr6 hk6 ht
     go_wp2_with fail
     go_end0
     exact ⟨.ok x m2, Or.inr ⟨_, _, HO.out, Or.inr ⟨x, m, HRR.out, by rw [HTT.out]; rfl⟩⟩, rfl, ⟨_, _, HK3'.out, HVV.out, HKS5.out.trans HK6.out⟩, HR6.out, HK5.out.trans (HKS.out _ _ HK6.out)⟩
 ·rw [decide_eq_false hlb] at HI
  have HO : Hid (cR E dep n = .bad 3 (pk E n).at_) := zz (by unfold cR; rw [if_neg (fun e => hlb e.1)]; unfold take; rw [if_neg hlb]; rfl)
  have HTK : Hid (∀ W, Below w.heap.size w W -> Calls Tryz.prog 154 #[.pointer (some ⟨rb, 0, none⟩), .string ⟨#[123]⟩] W fun e w' => Threw W w' rb 3 (pk E n).at_ e) := zz fun W hb => by
   have h1 := bM ⟨#[123]⟩ (by decide) W (H0.out.fresh hb)
   have h2 : take E tLb n = .bad 3 (pk E n).at_ := by unfold take; rw [if_neg hlb]; rfl
   rw [e123, h2] at h1
   exact h1
  clear hlb
  go_enter Tryz.func205, Tryz.ntmps205
  go_wp2_with (go_at_call 110; refine HI.out.mono ?_; rintro e w1 ⟨rfl, hb1⟩)
  refine (HTK.out w1 hb1).mono ?_
  rintro e w2 hth
  have hth2 := hth.own HLT.out (Keeps.of_new hb1)
  obtain ⟨b, rfl⟩ := aB hth
  exact ⟨rfl, .bad 3 _, Or.inl ⟨_, _, HO.out, rfl⟩, hth2⟩
theorem sL {α : Type} {dep : Nat} {g : Nat -> Nat -> Res α} {r : Res α} (h : uP E dep n (fun n1 r => Ev (g n1) r) r) :
  Ev (fun f => (cR E dep n).bind fun _ n1 => (g n1 f).bind fun l n2 => (take E tRb n2).bind fun _ n3 => .ok l n3) r := by
 rcases h with ⟨k, a, h1, rfl⟩ | ⟨t, n1, h1, ⟨k, a, h2, rfl⟩ | ⟨x, n2, h2, rfl⟩⟩
 ·rw [h1]; exact Ev.pure (fun e => by cases e) fun _ => rfl
 ·rw [h1]
  show Ev (fun f => (g n1 f).bind fun l n2 => (take E tRb n2).bind fun _ n3 => .ok l n3) _
  exact Ev.bad h2
 ·rw [h1]
  show Ev (fun f => (g n1 f).bind fun l n2 => (take E tRb n2).bind fun _ n3 => .ok l n3) _
  refine Ev.then h2 (Ev.pure ?_ fun _ => rfl)
  cases h : take E tRb n2 with
  | out => exact absurd h (cZ E _ _)
  | bad k a => intro e; cases e
  | ok t m => intro e; cases e
theorem rQ {dep rv lv : Nat} (hS : qG rb tv E (dep + 1)) (hE : TEnv rb E w) (cr : w.cell? ⟨rv, 0, none⟩ = some (.pointer (some ⟨rb, 0, none⟩))) (cl : w.cell? ⟨lv, 0, none⟩ = some (.slice none 0 0)) (zl : w.frozen? ⟨lv, 0, none⟩ = false) (hr : rb < rv) (hl : rv < lv) :
  I3 w rb tv E dep 206 #[.pointer (some ⟨rv, 0, none⟩), .pointer (some ⟨lv, 0, none⟩)] (fun b => b = rb \/ b = lv) (fun n1 r => Ev (fun f => Tr.stmts E f (dep + 1) false .nil n1) r) (fun W W' l => ∃ v, W'.cell? ⟨lv, 0, none⟩ = some v /\ StsV W W' l v) := by
 intro W n1 hk h
 have cr1 : W.cell? ⟨rv, 0, none⟩ = some (.pointer (some ⟨rb, 0, none⟩)) := hk.cell_of cr (fun e => by have : rv = rb := e; omega)
 have cl1 : W.cell? ⟨lv, 0, none⟩ = some (.slice none 0 0) := hk.cell_of cl (fun e => by have : lv = rb := e; omega)
 have zl1 : W.frozen? ⟨lv, 0, none⟩ = false := by rw [hk.frozen (p := ⟨lv, 0, none⟩) (block_lt_of_cell cl) (fun e => by have : lv = rb := e; omega)]; exact zl
 have hsl : lv < W.heap.size := block_lt_of_cell cl1
 have HST := zz (wG hS W h (hE.own hk) cr1 (by omega))
 have HL := zz (show rb < rv /\ rv < lv /\ lv < W.heap.size from ⟨hr, hl, hsl⟩)
 clear hS hE cr cl zl hr hl hk h hsl
 go_enter Tryz.func206, Tryz.ntmps206
 go_wp2_with fail
 refine HST.out.mono ?_
 rintro e w2 ⟨r, hev, hsay⟩
 cases r with
 | out => exact hsay.elim
 | bad k a =>
  have hsay' : Threw W w2 rb k a e := hsay
  obtain ⟨b, rfl⟩ := aB hsay'
  exact ⟨rfl, .bad k a, hev, hsay'⟩
 | ok l m =>
  obtain ⟨v, rfl, hv, hr2, hk2⟩ := hsay
  obtain ⟨a1, l1, k1, rfl⟩ := hv.1.form
  have cl2 : w2.cell? ⟨lv, 0, none⟩ = some (.slice none 0 0) := hk2.cell_of cl1 (fun e => by have := HL.out; have : lv = rb := e; omega)
  have zl2 : w2.frozen? ⟨lv, 0, none⟩ = false := by rw [hk2.frozen (p := ⟨lv, 0, none⟩) HL.out.2.2 (fun e => by have := HL.out; have : lv = rb := e; omega)]; exact zl1
  have HV := zz hv
  have HR2 := zz hr2
  have HK2 := zz hk2
  have HEV := zz hev
  clear cr1 cl1 zl1 hv hr2 hk2 hev
  go_wp2_with fail
  go_end0
  have hks := mB (w := w2) (sb := lv) (i := 0) (a := .slice a1 l1 k1)
  have hL := HL.out
  refine ⟨.ok l m, HEV.out, rfl, ⟨_, World.cell?_setCell_same _ _ _ cl2, StsF.keeps HV.out hks (fun b hb e => by have h1 : W.heap.size <= b := hb; have h2 : b = lv := e; omega)⟩, HR2.out.two hks (by omega), (HK2.out.mono (fun _ _ e => Or.inl e)).trans (hks.mono (fun _ _ e => Or.inr e))⟩
theorem sM {dep : Nat} (hS : dep < 12 -> qG rb tv E (dep + 1)) : kI rb tv E dep := by
 intro n w h hE
 have hlt := h.lt
 have hk : Keeps (fun b => b = rb) w ((w.alloc (.cells #[.pointer (some ⟨rb, 0, none⟩)] 165)).alloc (.cells #[.slice none 0 0] 49)) := ((Keeps.refl (fun b => b = rb) w).alloc _).alloc _
 have hb : Below w.heap.size w ((w.alloc (.cells #[.pointer (some ⟨rb, 0, none⟩)] 165)).alloc (.cells #[.slice none 0 0] 49)) := ((Keeps.refl (fun _ => False) w).alloc _).alloc _ |>.below (Nat.le_refl _) (fun _ _ e => e.elim)
 have cr : ((w.alloc (.cells #[.pointer (some ⟨rb, 0, none⟩)] 165)).alloc (.cells #[.slice none 0 0] 49)).cell? ⟨w.heap.size, 0, none⟩ = some (.pointer (some ⟨rb, 0, none⟩)) := aZ (bK _ _ _ 0 _ rfl rfl)
 have cl : ((w.alloc (.cells #[.pointer (some ⟨rb, 0, none⟩)] 165)).alloc (.cells #[.slice none 0 0] 49)).cell? ⟨w.heap.size + 1, 0, none⟩ = some (.slice none 0 0) := bK _ _ _ 0 _ rfl (by simp)
 have zl : ((w.alloc (.cells #[.pointer (some ⟨rb, 0, none⟩)] 165)).alloc (.cells #[.slice none 0 0] 49)).frozen? ⟨w.heap.size + 1, 0, none⟩ = false := World.frozen?_alloc_at _ _ _ _ (by simp)
 have HW := zz (uQ (n := n) _ (h.fresh hb) (fun hd => rQ (hS hd) (hE.fresh hb) cr cl zl hlt (Nat.lt_succ_self _)) (Or.inl rfl) (fun b e => by omega))
 have HK := zz hk
 have HLT := zz hlt
 have HSZ : Hid (w.heap.size + 1 < ((w.alloc (.cells #[.pointer (some ⟨rb, 0, none⟩)] 165)).alloc (.cells #[.slice none 0 0] 49)).heap.size) := zz (by simp)
 clear h hE hS hk hb cr cl zl hlt
 go_enter Tryz.func158, Tryz.ntmps158
 go_wp2_with fail
 refine HW.out.mono ?_
 rintro e w2 ⟨r, hR, hsay⟩
 have HEV : Hid (Ev (fun f => Tr.block E f dep n) r) := zz (Ev.step (h := fun f => (cR E dep n).bind fun _ n1 => (Tr.stmts E f (dep + 1) false .nil n1).bind fun l n2 => (take E tRb n2).bind fun _ n3 => .ok l n3) (fun f => by rw [jW]) (sL (g := fun n1 f => Tr.stmts E f (dep + 1) false .nil n1) hR))
 cases r with
 | out => exact hsay.elim
 | bad k a =>
  have hsay' : Threw _ w2 rb k a e := hsay
  obtain ⟨b, rfl⟩ := aB hsay'
  exact ⟨rfl, .bad k a, HEV.out, hsay'.own HLT.out HK.out⟩
 | ok l m =>
  obtain ⟨rfl, ⟨W, W1, hkW, ⟨v, cv, hv⟩, hkW1⟩, hr2, hk2⟩ := hsay
  have hL := HLT.out
  have hS2 := HSZ.out
  have hsz := hkW.size
  have hsl := block_lt_of_cell cv
  have cv2 : w2.cell? ⟨w.heap.size + 1, 0, none⟩ = some v := hkW1.cell_of cv (fun e => by have : w.heap.size + 1 = rb := e; omega)
  obtain ⟨a1, l1, k1, rfl⟩ := hv.1.form
  have hv2 : StsF w2 (fun b => w.heap.size <= b) l (.slice a1 l1 k1) := StsF.mono (fun b e => by have : W.heap.size <= b := e; omega) (StsF.keeps hv hkW1 (fun b e e2 => by have h1 : W.heap.size <= b := e; have h2 : b = rb := e2; omega))
  have HV2 := zz hv2
  have HR2 := zz hr2
  have HK2 : Hid (Keeps (fun b => b = rb) w w2) := zz (HK.out.trans' hk2 (fun i hi e => by rcases e with e | e; exact e; omega))
  clear hR hkW hkW1 cv hv hv2 hr2 hk2 hL hS2 hsz hsl
  go_wp2_with fail
  go_ret
  exact ⟨.ok l m, HEV.out, _, rfl, HV2.out, HR2.out, HK2.out⟩
end Go.Proofs.YtnpapppipccdbaaGreatDoor
