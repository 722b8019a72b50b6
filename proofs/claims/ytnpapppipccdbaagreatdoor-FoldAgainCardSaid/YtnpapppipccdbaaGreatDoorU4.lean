/-
  Texts of one proof, in build order: TreeSA TreeSB TreeSC TreeSD TreeSE TreeSF TreeSG
-/
import Derived.Test.YtnpapppipccdbaaGreatDoorU3
import Derived.Deep.RegionHeld
set_option maxRecDepth 100000
set_option maxHeartbeats 12800000
namespace Go.Proofs.YtnpapppipccdbaaGreatDoor
open Go.RowKit Lx Tr
variable {w w' : World} {rb n d dd : Nat} {tv : Value} {E : Env}
def ca0 (A : Nat) : List Value := [.int .i64 0, .int .i64 (A : Nat), .string (mkT []), .pointer none, .pointer none, .slice none 0 0]
def ca1 (c A : Nat) (name : B) (o p : Option Addr) : List Value := [.int .i64 (c : Nat), .int .i64 (A : Nat), .string (mkT name), .pointer o, .pointer p, .slice none 0 0]
def A9 (w w' : World) (rb : Nat) (tv : Value) (E : Env) (dep sb A : Nat) (r : Res (Nat × B × Ex × Ex)) (e : Ending) : Prop := match r with
 | .ok h m => e = .returned (.tuple #[]) /\ (∃ o p, Blk w' sb (ca1 h.1 A h.2.1 o p) /\ ExIn w' (fun b => w.heap.size <= b) (.pointer o) h.2.2.1 /\ ExIn w' (fun b => w.heap.size <= b) (.pointer p) h.2.2.2) /\ RdAt w' rb tv E m dep /\ Keeps (fun b => b = rb \/ b = sb) w w'
 | .bad k a => Threw w w' rb k a e
 | .out => False
theorem lO {dep sb A m c : Nat} {name : B} {o p : Option Addr} {x y : Ex} {w1 w2 : World} (hB : Blk w2 sb (ca1 c A name o p)) (hx : ExIn w1 (fun b => w.heap.size <= b) (.pointer o) x) (hy : ExIn w1 (fun b => w.heap.size <= b) (.pointer p) y) (hR : RdAt w1 rb tv E m dep) (hk : Keeps (fun b => b = rb \/ b = sb) w w1) (hks : Keeps (fun b => b = sb) w1 w2) (hs : rb < sb) (hsl : sb < w.heap.size) :
  A9 w w2 rb tv E dep sb A (.ok (c, name, x, y) m) (.returned (.tuple #[])) :=
 ⟨rfl, ⟨o, p, hB, hx.of_two hks (fun b hb => by have h1 : w.heap.size <= b := hb; omega), hy.of_two hks (fun b hb => by have h1 : w.heap.size <= b := hb; omega)⟩, hR.two hks hs, hk.trans (hks.mono (fun _ _ e => Or.inr e))⟩
theorem FJ (h : (pk E n).kind = 1 /\ (pk E (n + 1)).text = iQ) (f : Nat) : hH E f n = (take E aM (n + 2)).bind fun _ m => (Tr.one E f 0 m).bind fun x m2 => .ok (10, (pk E n).text, x, .nil) m2 := by
 unfold hH; rw [if_pos h]
theorem FK (h1 : ¬ ((pk E n).kind = 1 /\ (pk E (n + 1)).text = iQ)) (f : Nat) : hH E f n = (Tr.one E f 0 n).bind fun x m =>
  if (pk E m).text = aM then (dJ E f 0 (m + 1)).bind fun y m2 => .ok (3, [], x, y) m2
  else if codeOf x = 10 then .ok (10, [], Tr.leftOf x, .nil) m
  else fail E 3 m := by
 unfold hH; rw [if_neg h1]
theorem BA (A c : Nat) (o p : Option Addr) : (((ca0 A).set 0 (.int .i64 (c : Nat))).set 3 (.pointer o)).set 4 (.pointer p) = ca1 c A [] o p := rfl
theorem BB (A c : Nat) (o : Option Addr) : ((ca0 A).set 0 (.int .i64 (c : Nat))).set 3 (.pointer o) = ca1 c A [] o none := rfl
theorem I4 (A c : Nat) (o : Option Addr) (nm : B) : (((ca0 A).set 0 (.int .i64 (c : Nat))).set 2 (.string (mkT nm))).set 3 (.pointer o) = ca1 c A nm o none := rfl
theorem uR {dep sb A : Nat} (w : World) (h : RdAt w rb tv E n dep) (hE : TEnv rb E w) (hB : Blk w sb (ca0 A)) (hs : rb < sb) (h1 : ¬ ((pk E n).kind = 1 /\ (pk E (n + 1)).text = iQ)) :
  Calls Tryz.prog 314 #[.pointer (some ⟨rb, 0, none⟩), .pointer (some ⟨sb, 0, none⟩)] w fun e w' => ∃ r, Ev (fun f => hH E f n) r /\ A9 w w' rb tv E dep sb A r e := by
 have HP := zz (aN w h)
 have HA : Hid (∀ W, Below w.heap.size w W -> Calls Tryz.prog 202 #[.pointer (some ⟨rb, 0, none⟩), .int .i64 1] W fun e w' => e = .returned (aR (pk E (n + 1))) /\ Below w.heap.size w w') :=
  zz fun W hb => (iZ 1 W (h.fresh hb) (by omega)).mono fun _ _ ⟨e1, e2⟩ => ⟨e1, hb.trans (e2.mono hb.size)⟩
 have HON : Hid (∀ W, Below w.heap.size w W -> Calls Tryz.prog 311 #[.pointer (some ⟨rb, 0, none⟩), .int .i64 0] W fun e w' => ∃ r, Ev (fun f => Tr.one E f 0 n) r /\ bL ExV W w' rb tv E dep r e) := zz fun W hb => KM (dd := 0) (Nat.zero_le _) n W (h.fresh hb) (hE.fresh hb)
 have HEV : Hid (∀ r, Ev (fun f => (Tr.one E f 0 n).bind fun x m =>
  if (pk E m).text = aM then (dJ E f 0 (m + 1)).bind fun y m2 => .ok (3, [], x, y) m2
  else if codeOf x = 10 then .ok (10, [], Tr.leftOf x, .nil) m
  else fail E 3 m) r -> Ev (fun f => hH E f n) r) := zz fun r hr => ⟨hr.1, hr.2.imp fun f0 hf f hle => by show hH E f n = _; rw [FK h1 f]; exact hf f hle⟩
 have HE := zz hE
 have HB := zz hB
 have HS := zz hs
 have HLT := zz h.lt
 have e60 : (⟨#[60, 45]⟩ : ByteArray).data.toList = aM := rfl
 have hf := aV
 have hf1 := aY
 unfold aR at HP HA
 clear h hE hB hs
 by_cases hk : (pk E n).kind = 1
 ·have hki : ((pk E n).kind : Int) = 1 := by omega
  have q1 : (pk E (n + 1)).text ≠ iQ := fun e => h1 ⟨hk, e⟩
  rw [hki] at HP
  obtain ⟨T2, hT2⟩ : ∃ T, T = mkT (pk E (n + 1)).text := ⟨_, rfl⟩
  rw [<- hT2] at HA
  have b1 : (T2.toList == [58, 61]) = false := by rw [hT2, bP]; exact decide_eq_false q1
  clear h1 hk hki q1 hT2
  generalize mkT (pk E n).text = T at *
  go_enter Tryz.func314, Tryz.ntmps314
  go_wp2_with (first
   | (go_at_call 153; refine HP.out.mono ?_; rintro e w1 ⟨rfl, hb1⟩)
   | (go_at_call 202; refine (HA.out _ hb1).mono ?_; clear hb1; rintro e w1 ⟨rfl, hb1⟩))
  clear HA
  have HB1 := zz hb1
  refine (HON.out _ HB1.out).mono ?_
  rintro e w2 ⟨r, hev, hsay⟩
  clear hb1 HP
  cases r with
  | out => exact hsay.elim
  | bad k a =>
   have hsay' : Threw w1 w2 rb k a e := hsay
   obtain ⟨b, rfl⟩ := aB hsay'
   exact ⟨rfl, .bad k a, HEV.out _ (Ev.bad hev), hsay'.with (S := fun _ => False) HLT.out (Keeps.of_new HB1.out) (fun b e => e.elim)⟩
  | ok x m =>
   obtain ⟨v, rfl, hx, hr2, hk2⟩ := hsay
   obtain ⟨o, rfl⟩ := aL hx
   have hnn := lX hev
   have hkw : Keeps (fun b => b = rb \/ b = sb) w w2 := (Keeps.of_new HB1.out).trans (hk2.mono (fun _ _ e => Or.inl e))
   have hB2 := (HB.out.fresh HB1.out).keeps hk2 (fun e => absurd (show sb = rb from e) (by have := HS.out; omega))
   have hx' : ExV w w2 x (.pointer o) := hx.of HB1.out.size
   have hE2 := (HE.out.fresh HB1.out).own hk2
   have HXV := zz hx'
   have HK2 := zz hkw
   have HB2 := zz hB2
   have HE2 := zz hE2
   have HTI := cX ⟨#[60, 45]⟩ (by decide) w2 hr2
   rw [e60] at HTI
   have HI := zz HTI
   have HEV1 := zz hev
   have HNN := zz hnn
   have HSZ := zz hkw.size
   clear hx hx' hr2 hk2 hkw hB2 hE2 HTI hev hnn
   go_wp2_with fail
   by_cases hc : (pk E m).text = aM
   ·have hv : aO E aM m = m + 1 := by unfold aO; rw [if_pos hc]
    rw [hv, decide_eq_true hc] at HI
    have HC := zz hc
    clear hv hc
    refine HI.out.mono ?_
    rintro e w3 ⟨rfl, hr3, hk3⟩
    have hB3 := HB2.out.keeps hk3 (fun e => absurd (show sb = rb from e) (by have := HS.out; omega))
    have hx3 := HXV.out.on HLT.out hk3
    have hk03 := HK2.out.trans (hk3.mono (fun _ _ e => Or.inl e))
    have HB3 := zz hB3
    have HX3 := zz hx3
    have HK3 := zz hk03
    have HXP := zz (k8 (dd := 0) (Nat.zero_le _) (m + 1) w3 hr3 (HE2.out.own hk3))
    clear hr3 hk3 hB3 hx3 hk03
    go_wp2_with fail
    refine HXP.out.mono ?_
    rintro e w4 ⟨r, hev, hsay⟩
    cases r with
    | out => exact hsay.elim
    | bad k a =>
     have hsay' : Threw w3 w4 rb k a e := hsay
     obtain ⟨b, rfl⟩ := aB hsay'
     refine ⟨rfl, .bad k a, HEV.out _ (Ev.then HEV1.out ?_), hsay'.with HLT.out HK3.out (fun b e => by have := HS.out; omega)⟩
     simp only [if_pos HC.out]
     exact Ev.bad hev
    | ok y m2 =>
     obtain ⟨v4, rfl, hx4, hr4, hk4⟩ := hsay
     obtain ⟨o2, rfl⟩ := aL hx4
     have hB4 := HB3.out.keeps hk4 (fun e => absurd (show sb = rb from e) (by have := HS.out; omega))
     have c0 := hB4.at_ 0 _ rfl
     have c3 := hB4.at_ 3 _ rfl
     have c4 := hB4.at_ 4 _ rfl
     have z0 := hB4.free 0
     have z3 := hB4.free 3
     have z4 := hB4.free 4
     have HB4 := zz hB4
     have HX4 := zz hx4
     have HR4 := zz hr4
     have HK4 := zz hk4
     have HEV4 := zz hev
     clear hB4 hx4 hr4 hk4 hev
     go_wp2_with fail
     go_end0
     refine ⟨.ok (3, [], x, y) m2, HEV.out _ (Ev.then HEV1.out ?_), ?_⟩
     ·simp only [if_pos HC.out]
      exact Ev.then HEV4.out (Ev.pure (fun e => by cases e) fun _ => rfl)
     ·have h5 := (((HB4.out.set 0 (.int .i64 (3 : Nat)) (by simp [ca0])).set 3 (.pointer o) (by simp [ca0])).set 4 (.pointer o2) (by simp [ca0]))
      rw [BA] at h5
      exact lO h5 (HX3.out.on HLT.out HK4.out) (HX4.out.of HK3.out.size) HR4.out (HK3.out.trans (HK4.out.mono (fun _ _ e => Or.inl e))) I2 HS.out HB.out.lt
   ·have hv : aO E aM m = m := by unfold aO; rw [if_neg hc]
    rw [hv, decide_eq_false hc] at HI
    have HC := zz hc
    clear hv hc
    refine HI.out.mono ?_
    rintro e w3 ⟨rfl, hr3, hk3⟩
    have hB3 := HB2.out.keeps hk3 (fun e => absurd (show sb = rb from e) (by have := HS.out; omega))
    have hx3 := HXV.out.on HLT.out hk3
    have hk03 := HK2.out.trans (hk3.mono (fun _ _ e => Or.inl e))
    cases x with
    | nil => exact absurd rfl HNN.out
    | mk code at2 num op nm l r ar =>
     have hx3' := hx3
     obtain ⟨b, lv, rv, av, e, hb, x0, _, _, _, _, x5, _, _, hxl, _⟩ := hx3'
     cases e
     obtain ⟨ol, rfl⟩ := aL hxl
     have c0 := hB3.at_ 0 _ rfl
     have c3 := hB3.at_ 3 _ rfl
     have z0 := hB3.free 0
     have z3 := hB3.free 3
     have HB3 := zz hB3
     have HXL := zz hxl
     have HK3 := zz hk03
     have HR3 := zz hr3
     have hne : (⟨b, 0, none⟩ : Addr).block ≠ (⟨sb, 0, none⟩ : Addr).block := by have h1 : w.heap.size <= b := hb; have := HB.out.lt; show b ≠ sb; omega
     clear hr3 hk3 hB3 hx3 hk03 hb hxl
     by_cases h10 : (code : Int) = 10
     ·have e10 : ((code : Int) == 10) = true := by rw [h10]; rfl
      have HC7 : Hid (code = 10) := zz (by omega)
      clear h10
      go_wp2_with fail
      go_end0
      refine ⟨.ok (10, [], l, .nil) m, HEV.out _ (Ev.then HEV1.out ?_), ?_⟩
      ·simp only [if_neg HC.out]
       rw [if_pos (show codeOf (.mk code at2 num op nm l r ar) = 10 from HC7.out)]
       exact Ev.pure (fun e => by cases e) fun _ => rfl
      ·have h5 := (HB3.out.set 0 (.int .i64 (10 : Nat)) (by simp [ca0])).set 3 (.pointer ol) (by simp [ca0])
       rw [BB] at h5
       exact lO h5 HXL.out rfl HR3.out HK3.out mP HS.out HB.out.lt
     ·have e10 : ((code : Int) == 10) = false := beq_eq_false_iff_ne.2 h10
      have HC7 : Hid (¬ code = 10) := zz (by omega)
      clear h10
      have HF := zz (dC 3 w3 HR3.out)
      go_wp2_with fail
      refine HF.out.mono ?_
      rintro e w4 hth
      have hth2 := hth.with HLT.out HK3.out (fun b e => by have := HS.out; omega)
      obtain ⟨b2, rfl⟩ := aB hth
      refine ⟨rfl, .bad 3 (pk E m).at_, HEV.out _ (Ev.then HEV1.out ?_), hth2⟩
      simp only [if_neg HC.out]
      rw [if_neg (show ¬ codeOf (.mk code at2 num op nm l r ar) = 10 from HC7.out)]
      exact Ev.pure (fun e => by cases e) fun _ => rfl
 ·have hki : ¬ ((pk E n).kind : Int) = 1 := by omega
  have b1 : (((pk E n).kind : Int) == 1) = false := beq_eq_false_iff_ne.2 hki
  clear h1 hk HA
  generalize mkT (pk E n).text = T at *
  generalize (pk E n).kind = K at *
  go_enter Tryz.func314, Tryz.ntmps314
  go_wp2_with (go_at_call 153; refine HP.out.mono ?_; rintro e w1 ⟨rfl, hb1⟩)
  have HB1 := zz hb1
  refine (HON.out _ HB1.out).mono ?_
  rintro e w2 ⟨r, hev, hsay⟩
  clear hb1 HP
  cases r with
  | out => exact hsay.elim
  | bad k a =>
   have hsay' : Threw w1 w2 rb k a e := hsay
   obtain ⟨b, rfl⟩ := aB hsay'
   exact ⟨rfl, .bad k a, HEV.out _ (Ev.bad hev), hsay'.with (S := fun _ => False) HLT.out (Keeps.of_new HB1.out) (fun b e => e.elim)⟩
  | ok x m =>
   obtain ⟨v, rfl, hx, hr2, hk2⟩ := hsay
   obtain ⟨o, rfl⟩ := aL hx
   have hnn := lX hev
   have hkw : Keeps (fun b => b = rb \/ b = sb) w w2 := (Keeps.of_new HB1.out).trans (hk2.mono (fun _ _ e => Or.inl e))
   have hB2 := (HB.out.fresh HB1.out).keeps hk2 (fun e => absurd (show sb = rb from e) (by have := HS.out; omega))
   have hx' : ExV w w2 x (.pointer o) := hx.of HB1.out.size
   have hE2 := (HE.out.fresh HB1.out).own hk2
   have HXV := zz hx'
   have HK2 := zz hkw
   have HB2 := zz hB2
   have HE2 := zz hE2
   have HTI := cX ⟨#[60, 45]⟩ (by decide) w2 hr2
   rw [e60] at HTI
   have HI := zz HTI
   have HEV1 := zz hev
   have HNN := zz hnn
   have HSZ := zz hkw.size
   clear hx hx' hr2 hk2 hkw hB2 hE2 HTI hev hnn
   go_wp2_with fail
   by_cases hc : (pk E m).text = aM
   ·have hv : aO E aM m = m + 1 := by unfold aO; rw [if_pos hc]
    rw [hv, decide_eq_true hc] at HI
    have HC := zz hc
    clear hv hc
    refine HI.out.mono ?_
    rintro e w3 ⟨rfl, hr3, hk3⟩
    have hB3 := HB2.out.keeps hk3 (fun e => absurd (show sb = rb from e) (by have := HS.out; omega))
    have hx3 := HXV.out.on HLT.out hk3
    have hk03 := HK2.out.trans (hk3.mono (fun _ _ e => Or.inl e))
    have HB3 := zz hB3
    have HX3 := zz hx3
    have HK3 := zz hk03
    have HXP := zz (k8 (dd := 0) (Nat.zero_le _) (m + 1) w3 hr3 (HE2.out.own hk3))
    clear hr3 hk3 hB3 hx3 hk03
    go_wp2_with fail
    refine HXP.out.mono ?_
    rintro e w4 ⟨r, hev, hsay⟩
    cases r with
    | out => exact hsay.elim
    | bad k a =>
     have hsay' : Threw w3 w4 rb k a e := hsay
     obtain ⟨b, rfl⟩ := aB hsay'
     refine ⟨rfl, .bad k a, HEV.out _ (Ev.then HEV1.out ?_), hsay'.with HLT.out HK3.out (fun b e => by have := HS.out; omega)⟩
     simp only [if_pos HC.out]
     exact Ev.bad hev
    | ok y m2 =>
     obtain ⟨v4, rfl, hx4, hr4, hk4⟩ := hsay
     obtain ⟨o2, rfl⟩ := aL hx4
     have hB4 := HB3.out.keeps hk4 (fun e => absurd (show sb = rb from e) (by have := HS.out; omega))
     have c0 := hB4.at_ 0 _ rfl
     have c3 := hB4.at_ 3 _ rfl
     have c4 := hB4.at_ 4 _ rfl
     have z0 := hB4.free 0
     have z3 := hB4.free 3
     have z4 := hB4.free 4
     have HB4 := zz hB4
     have HX4 := zz hx4
     have HR4 := zz hr4
     have HK4 := zz hk4
     have HEV4 := zz hev
     clear hB4 hx4 hr4 hk4 hev
     go_wp2_with fail
     go_end0
     refine ⟨.ok (3, [], x, y) m2, HEV.out _ (Ev.then HEV1.out ?_), ?_⟩
     ·simp only [if_pos HC.out]
      exact Ev.then HEV4.out (Ev.pure (fun e => by cases e) fun _ => rfl)
     ·have h5 := (((HB4.out.set 0 (.int .i64 (3 : Nat)) (by simp [ca0])).set 3 (.pointer o) (by simp [ca0])).set 4 (.pointer o2) (by simp [ca0]))
      rw [BA] at h5
      exact lO h5 (HX3.out.on HLT.out HK4.out) (HX4.out.of HK3.out.size) HR4.out (HK3.out.trans (HK4.out.mono (fun _ _ e => Or.inl e))) I2 HS.out HB.out.lt
   ·have hv : aO E aM m = m := by unfold aO; rw [if_neg hc]
    rw [hv, decide_eq_false hc] at HI
    have HC := zz hc
    clear hv hc
    refine HI.out.mono ?_
    rintro e w3 ⟨rfl, hr3, hk3⟩
    have hB3 := HB2.out.keeps hk3 (fun e => absurd (show sb = rb from e) (by have := HS.out; omega))
    have hx3 := HXV.out.on HLT.out hk3
    have hk03 := HK2.out.trans (hk3.mono (fun _ _ e => Or.inl e))
    cases x with
    | nil => exact absurd rfl HNN.out
    | mk code at2 num op nm l r ar =>
     have hx3' := hx3
     obtain ⟨b, lv, rv, av, e, hb, x0, _, _, _, _, x5, _, _, hxl, _⟩ := hx3'
     cases e
     obtain ⟨ol, rfl⟩ := aL hxl
     have c0 := hB3.at_ 0 _ rfl
     have c3 := hB3.at_ 3 _ rfl
     have z0 := hB3.free 0
     have z3 := hB3.free 3
     have HB3 := zz hB3
     have HXL := zz hxl
     have HK3 := zz hk03
     have HR3 := zz hr3
     have hne : (⟨b, 0, none⟩ : Addr).block ≠ (⟨sb, 0, none⟩ : Addr).block := by have h1 : w.heap.size <= b := hb; have := HB.out.lt; show b ≠ sb; omega
     clear hr3 hk3 hB3 hx3 hk03 hb hxl
     by_cases h10 : (code : Int) = 10
     ·have e10 : ((code : Int) == 10) = true := by rw [h10]; rfl
      have HC7 : Hid (code = 10) := zz (by omega)
      clear h10
      go_wp2_with fail
      go_end0
      refine ⟨.ok (10, [], l, .nil) m, HEV.out _ (Ev.then HEV1.out ?_), ?_⟩
      ·simp only [if_neg HC.out]
       rw [if_pos (show codeOf (.mk code at2 num op nm l r ar) = 10 from HC7.out)]
       exact Ev.pure (fun e => by cases e) fun _ => rfl
      ·have h5 := (HB3.out.set 0 (.int .i64 (10 : Nat)) (by simp [ca0])).set 3 (.pointer ol) (by simp [ca0])
       rw [BB] at h5
       exact lO h5 HXL.out rfl HR3.out HK3.out mP HS.out HB.out.lt
     ·have e10 : ((code : Int) == 10) = false := beq_eq_false_iff_ne.2 h10
      have HC7 : Hid (¬ code = 10) := zz (by omega)
      clear h10
      have HF := zz (dC 3 w3 HR3.out)
      go_wp2_with fail
      refine HF.out.mono ?_
      rintro e w4 hth
      have hth2 := hth.with HLT.out HK3.out (fun b e => by have := HS.out; omega)
      obtain ⟨b2, rfl⟩ := aB hth
      refine ⟨rfl, .bad 3 (pk E m).at_, HEV.out _ (Ev.then HEV1.out ?_), hth2⟩
      simp only [if_neg HC.out]
      rw [if_neg (show ¬ codeOf (.mk code at2 num op nm l r ar) = 10 from HC7.out)]
      exact Ev.pure (fun e => by cases e) fun _ => rfl
theorem uS {dep sb A : Nat} (w : World) (h : RdAt w rb tv E n dep) (hE : TEnv rb E w) (hB : Blk w sb (ca0 A)) (hs : rb < sb) (h1 : (pk E n).kind = 1 /\ (pk E (n + 1)).text = iQ) :
  Calls Tryz.prog 314 #[.pointer (some ⟨rb, 0, none⟩), .pointer (some ⟨sb, 0, none⟩)] w fun e w' => ∃ r, Ev (fun f => hH E f n) r /\ A9 w w' rb tv E dep sb A r e := by
 have HP := zz (aN w h)
 have HA : Hid (∀ W, Below w.heap.size w W -> Calls Tryz.prog 202 #[.pointer (some ⟨rb, 0, none⟩), .int .i64 1] W fun e w' => e = .returned (aR (pk E (n + 1))) /\ Below w.heap.size w w') :=
  zz fun W hb => (iZ 1 W (h.fresh hb) (by omega)).mono fun _ _ ⟨e1, e2⟩ => ⟨e1, hb.trans (e2.mono hb.size)⟩
 have hn1 := d8 h1.2 (by decide)
 have HTK : Hid (∀ W, Below w.heap.size w W -> Calls Tryz.prog 115 #[.pointer (some ⟨rb, 0, none⟩), .int .i64 1] W fun e w' => bL jL W w' rb tv E dep (.ok (pk E n) (n + 1)) e) := zz fun W hb => by
  have h2 := aX 1 (by decide) W (h.fresh hb)
  have hv : aF E 1 n = .ok (pk E n) (n + 1) := by unfold aF; rw [if_pos h1.1]
  rw [hv] at h2
  exact h2
 have HEV : Hid (∀ r, Ev (fun f => (take E aM (n + 2)).bind fun _ m => (Tr.one E f 0 m).bind fun x m2 => .ok (10, (pk E n).text, x, .nil) m2) r -> Ev (fun f => hH E f n) r) := zz fun r hr => ⟨hr.1, hr.2.imp fun f0 hf f hle => by show hH E f n = _; rw [FJ h1 f]; exact hf f hle⟩
 have HE := zz hE
 have HB := zz hB
 have HS := zz hs
 have HLT := zz h.lt
 have HN1 := zz hn1
 have e60 : (⟨#[60, 45]⟩ : ByteArray).data.toList = aM := rfl
 have hki : ((pk E n).kind : Int) = 1 := by have := h1.1; omega
 have hf := aV
 have hf1 := aY
 unfold aR at HP HA
 unfold bL jL aR at HTK
 simp only at HTK
 rw [hki] at HP HTK
 obtain ⟨T2, hT2⟩ : ∃ T, T = mkT (pk E (n + 1)).text := ⟨_, rfl⟩
 rw [<- hT2] at HA
 have b1 : (T2.toList == [58, 61]) = true := by rw [hT2, h1.2, Lib.toList_data]; rfl
 clear h hE hB hs h1 hki hn1 hT2
 generalize hT : mkT (pk E n).text = T at *
 go_enter Tryz.func314, Tryz.ntmps314
 go_wp2_with (first
  | (go_at_call 153; refine HP.out.mono ?_; rintro e w1 ⟨rfl, hb1⟩)
  | (go_at_call 202; refine (HA.out _ hb1).mono ?_; clear hb1; rintro e w1 ⟨rfl, hb1⟩))
 clear HA
 have HB1 := zz hb1
 refine (HTK.out _ hb1).mono ?_
 clear hb1
 rintro e w2 ⟨v, rfl, rfl, hr2, hk2⟩
 have hkw : Keeps (fun b => b = rb \/ b = sb) w w2 := (Keeps.of_new HB1.out).trans (hk2.mono (fun _ _ e => Or.inl e))
 have hB2 := (HB.out.fresh HB1.out).keeps hk2 (fun e => absurd (show sb = rb from e) (by have := HS.out; omega))
 have c0 := hB2.at_ 0 _ rfl
 have c2 := hB2.at_ 2 _ rfl
 have z0 := hB2.free 0
 have z2 := hB2.free 2
 have hks := mP (w := w2) (sb := sb) (i := 0) (j := 2) (a := .int .i64 10) (b := .string T)
 have HB3 := zz ((hB2.set 0 (.int .i64 (10 : Nat)) (by simp [ca0])).set 2 (.string T) (by simp [ca0]))
 have HR3 := zz (hr2.two hks HS.out)
 have HK3 := zz (hkw.trans (hks.mono (fun _ _ e => Or.inr e)))
 clear hks hB2 hr2 hk2 hkw HTK
 go_wp2_with fail
 refine (bF _ HR3.out HN1.out).mono ?_
 rintro e w4 ⟨rfl, hr4, hk4⟩
 have HB4 := zz (HB3.out.keeps hk4 (fun e => absurd (show sb = rb from e) (by have := HS.out; omega)))
 have HK4 := zz (HK3.out.trans (hk4.mono (fun _ _ e => Or.inl e)))
 have htk := bM ⟨#[60, 45]⟩ (by decide) w4 hr4
 rw [e60] at htk
 have HTK := zz htk
 clear hr4 hk4 htk c0 c2 z0 z2
 unfold aR
 generalize mkT (pk E (n + 1)).text = T3
 generalize (pk E (n + 1)).kind = K3
 generalize (pk E (n + 1)).at_ = P3
 go_wp2_with fail
 cases ht : take E aM (n + 1 + 1) with
 | out => exact absurd ht (cZ E _ _)
 | bad k a =>
  rw [ht] at HTK
  refine HTK.out.mono ?_
  rintro e w5 hth
  have hth2 := Threw.with hth HLT.out HK4.out (fun b e => by have := HS.out; omega)
  obtain ⟨b, rfl⟩ := aB hth
  exact ⟨rfl, .bad k a, HEV.out _ (by rw [show n + 2 = n + 1 + 1 from rfl, ht]; exact Ev.pure (fun e => by cases e) fun _ => rfl), hth2⟩
 | ok t m =>
  rw [ht] at HTK
  have HTT := zz ht
  clear ht
  refine HTK.out.mono ?_
  rintro e w5 ⟨v5, rfl, _, hr5, hk5⟩
  have HB5 := zz (HB4.out.keeps hk5 (fun e => absurd (show sb = rb from e) (by have := HS.out; omega)))
  have hk05 := HK4.out.trans (hk5.mono (fun _ _ e => Or.inl e))
  have HK5 := zz hk05
  have HON := zz (KM (dd := 0) (Nat.zero_le _) m w5 hr5 (HE.out.keeps hk05 (fun b e => by have := HS.out; omega)))
  clear hr5 hk5 hk05
  go_wp2_with fail
  refine HON.out.mono ?_
  rintro e w6 ⟨r, hev, hsay⟩
  have HEV6 : Hid (Ev (fun f => hH E f n) (r.bind fun x m2 => .ok (10, (pk E n).text, x, .nil) m2)) := zz (HEV.out _ (by
   rw [show n + 2 = n + 1 + 1 from rfl, HTT.out]
   exact Ev.map _ (fun _ _ e => by cases e) hev))
  cases r with
  | out => exact hsay.elim
  | bad k a =>
   have hsay' : Threw w5 w6 rb k a e := hsay
   obtain ⟨b, rfl⟩ := aB hsay'
   exact ⟨rfl, _, HEV6.out, hsay'.with HLT.out HK5.out (fun b e => by have := HS.out; omega)⟩
  | ok x m2 =>
   obtain ⟨v6, rfl, hx6, hr6, hk6⟩ := hsay
   obtain ⟨o, rfl⟩ := aL hx6
   have hB6 := HB5.out.keeps hk6 (fun e => absurd (show sb = rb from e) (by have := HS.out; omega))
   have c3 := hB6.at_ 3 _ rfl
   have z3 := hB6.free 3
   have HB6 := zz hB6
   have HX6 := zz hx6
   have HR6 := zz hr6
   have HK6 := zz (HK5.out.trans (hk6.mono (fun _ _ e => Or.inl e)))
   clear hB6 hx6 hr6 hk6 hev
   go_wp2_with fail
   try simp only [Exit.inBlock, Exit.then]
   refine bodyPost_ret (results_none rfl _ _ _) rfl ?_
   refine ⟨_, HEV6.out, ?_⟩
   have h5 := HB6.out.set 3 (.pointer o) (by simp [ca0])
   rw [<- hT, I4] at h5
   exact lO h5 (HX6.out.of HK5.out.size) rfl HR6.out HK6.out mB HS.out HB.out.lt
theorem FL {dep sb A : Nat} (w : World) (h : RdAt w rb tv E n dep) (hE : TEnv rb E w) (hB : Blk w sb (ca0 A)) (hs : rb < sb) :
  Calls Tryz.prog 314 #[.pointer (some ⟨rb, 0, none⟩), .pointer (some ⟨sb, 0, none⟩)] w fun e w' => ∃ r, Ev (fun f => hH E f n) r /\ A9 w w' rb tv E dep sb A r e := by
 by_cases h1 : (pk E n).kind = 1 /\ (pk E (n + 1)).text = iQ
 ·exact uS w h hE hB hs h1
 ·exact uR w h hE hB hs h1
def L4 (w w' : World) (s : Ca) (v : Value) : Prop := ∃ vs : List Value, v = .agg vs.toArray /\ CaC w' (fun b => w.heap.size <= b) vs s
def wH (rb : Nat) (tv : Value) (E : Env) (dep : Nat) : Prop :=
 ∀ (n : Nat) (w : World), RdAt w rb tv E n dep -> TEnv rb E w -> Calls Tryz.prog 309 #[.pointer (some ⟨rb, 0, none⟩)] w fun e w' => ∃ r, Ev (fun f => Tr.oneCase E f dep n) r /\ bL L4 w w' rb tv E dep r e
theorem DG {sb i : Nat} {a : Value} (hs : w.heap.size <= sb) (hk : Keeps (fun b => b = rb) w w') : Keeps (fun b => b = rb) w (w'.setCell ⟨sb, i, none⟩ a) := hk.setCell (p := ⟨sb, i, none⟩) (Or.inr hs) a
theorem wI {dep : Nat} (hS : qG rb tv E dep) : wH rb tv E dep := by
 intro n w h hE
 have hk0 : Keeps (fun b => b = rb) w ((w.alloc (.cells #[.pointer (some ⟨rb, 0, none⟩)] 165)).alloc (.cells #[.int .i64 0, .int .i64 0, .string ⟨#[]⟩, .pointer none, .pointer none, .slice none 0 0] 134)) := ((Keeps.refl (fun b => b = rb) w).alloc _).alloc _
 have hb0 : Below w.heap.size w ((w.alloc (.cells #[.pointer (some ⟨rb, 0, none⟩)] 165)).alloc (.cells #[.int .i64 0, .int .i64 0, .string ⟨#[]⟩, .pointer none, .pointer none, .slice none 0 0] 134)) := ((Keeps.refl (fun _ => False) w).alloc _).alloc _ |>.below (Nat.le_refl _) (fun _ _ e => e.elim)
 have HP := zz (aN _ (h.fresh hb0))
 have H0 := zz h
 have HE := zz hE
 have HS := zz hS
 have HLT := zz h.lt
 have HK0 := zz hk0
 have HB0 := zz hb0
 have eD : (⟨#[100, 101, 102, 97, 117, 108, 116]⟩ : ByteArray).data.toList = bE := rfl
 have eC : (⟨#[99, 97, 115, 101]⟩ : ByteArray).data.toList = gM := rfl
 have e58 : (⟨#[58]⟩ : ByteArray).data.toList = jB := rfl
 have hf := bW
 unfold aR at HP
 clear h hE hS hk0 hb0
 generalize mkT (pk E n).text = T at *
 generalize (pk E n).kind = K at *
 go_enter Tryz.func309, Tryz.ntmps309
 go_wp2_with fail
 refine HP.out.mono ?_
 rintro e w1 ⟨rfl, hb1⟩
 have hb01 : Below w.heap.size w w1 := HB0.out.trans (hb1.mono HB0.out.size)
 have hcr0 : ((w.alloc (.cells #[.pointer (some ⟨rb, 0, none⟩)] 165)).alloc (.cells #[.int .i64 0, .int .i64 0, .string ⟨#[]⟩, .pointer none, .pointer none, .slice none 0 0] 134)).cell? ⟨w.heap.size, 0, none⟩ = some (.pointer (some ⟨rb, 0, none⟩)) := aZ (bK _ _ _ 0 _ rfl rfl)
 have hrv0 : Blk ((w.alloc (.cells #[.pointer (some ⟨rb, 0, none⟩)] 165)).alloc (.cells #[.int .i64 0, .int .i64 0, .string ⟨#[]⟩, .pointer none, .pointer none, .slice none 0 0] 134)) (w.heap.size + 1) (ca0 0) := Blk.new' _ (ca0 0) _ (by simp)
 have hcr1 : w1.cell? ⟨w.heap.size, 0, none⟩ = some (.pointer (some ⟨rb, 0, none⟩)) := by rw [hb1.cell (p := ⟨w.heap.size, 0, none⟩) (block_lt_of_cell hcr0)]; exact hcr0
 have hrv1 := hrv0.fresh hb1
 obtain ⟨cb, hcb⟩ : ∃ cb, cb = w1.heap.size := ⟨_, rfl⟩
 have hcbn : w.heap.size + 1 < cb := by rw [hcb]; exact hrv1.lt
 have HCB := zz hcbn
 have hB1 : Blk (w1.alloc (.cells #[.int .i64 0, .int .i64 ((pk E n).at_ : Nat), .string ⟨#[]⟩, .pointer none, .pointer none, .slice none 0 0] 134)) cb (ca0 (pk E n).at_) := Blk.new' w1 (ca0 (pk E n).at_) _ hcb
 have hb2 : Below w.heap.size w (w1.alloc (.cells #[.int .i64 0, .int .i64 ((pk E n).at_ : Nat), .string ⟨#[]⟩, .pointer none, .pointer none, .slice none 0 0] 134)) := hb01.alloc hb01.size _
 have cr2 : (w1.alloc (.cells #[.int .i64 0, .int .i64 ((pk E n).at_ : Nat), .string ⟨#[]⟩, .pointer none, .pointer none, .slice none 0 0] 134)).cell? ⟨w.heap.size, 0, none⟩ = some (.pointer (some ⟨rb, 0, none⟩)) := aZ hcr1
 have HRV2 := zz (hrv1.keeps (S := fun _ => False) ((Keeps.refl _ w1).alloc (.cells #[.int .i64 0, .int .i64 ((pk E n).at_ : Nat), .string ⟨#[]⟩, .pointer none, .pointer none, .slice none 0 0] 134)) id)
 have htk := cX ⟨#[100, 101, 102, 97, 117, 108, 116]⟩ (by decide) _ (H0.out.fresh hb2)
 rw [eD] at htk
 have HI := zz htk
 have HB1 := zz hB1
 have HB2 := zz hb2
 have HCR2 := zz cr2
 clear htk hB1 hb2 hcr0 hrv0 hcr1 hrv1 hb01 hb1 hcbn
 go_wp2_with fail
 rw [<- hcb]
 have HCBE := zz hcb
 clear hcb
 by_cases hd : (pk E n).text = bE
 ·have hv : aO E bE n = n + 1 := by unfold aO; rw [if_pos hd]
  rw [hv, decide_eq_true hd] at HI
  have HD := zz hd
  clear hv hd
  refine HI.out.mono ?_
  rintro e w2 ⟨rfl, hr2, hk2⟩
  have hne : ¬ cb = rb := by have := HLT.out; have := HCB.out; omega
  have hB2 := HB1.out.keeps hk2 hne
  have c0 := hB2.at_ 0 _ rfl
  have z0 := hB2.free 0
  have hB3 : Blk (w2.setCell ⟨cb, 0, none⟩ (.int .i64 40)) cb (ca1 40 (pk E n).at_ [] none none) := hB2.set 0 (.int .i64 (40 : Nat)) (by simp [ca0])
  have hks := mB (w := w2) (sb := cb) (i := 0) (a := .int .i64 40)
  have hk02 : Keeps (fun b => b = rb) w w2 := (Keeps.of_new HB2.out).trans hk2
  have hk3 : Keeps (fun b => b = rb) w (w2.setCell ⟨cb, 0, none⟩ (.int .i64 40)) := DG (by have := HCB.out; omega) hk02
  have hr3 := hr2.two hks (by have := HLT.out; have := HCB.out; omega)
  have cr3 : (w2.setCell ⟨cb, 0, none⟩ (.int .i64 40)).cell? ⟨w.heap.size, 0, none⟩ = some (.pointer (some ⟨rb, 0, none⟩)) := hks.cell_of (hk2.cell_of HCR2.out (fun e => by have := HLT.out; have : w.heap.size = rb := e; omega)) (fun e => by have := HCB.out; have : w.heap.size = cb := e; omega)
  have HRV3 := zz ((HRV2.out.keeps hk2 (fun e => by have := HLT.out; have : w.heap.size + 1 = rb := e; omega)).keeps hks (fun e => by have := HCB.out; have : w.heap.size + 1 = cb := e; omega))
  have htk := bM ⟨#[58]⟩ (by decide) _ hr3
  rw [e58] at htk
  have HTK := zz htk
  have HB3 := zz hB3
  have HK3 := zz hk3
  clear hB2 hB3 hks hk02 hk3 hr3 hr2 hk2 htk hne HI
  go_wp2_with fail
  clear c0 z0
  cases ht : take E jB (n + 1) with
  | out => exact absurd ht (cZ E _ _)
  | bad k a =>
   rw [ht] at HTK
   refine HTK.out.mono ?_
   rintro e w4 hth
   have hth2 := Threw.own hth HLT.out HK3.out
   obtain ⟨b, rfl⟩ := aB hth
   refine ⟨rfl, .bad k a, Ev.now (fun e => by cases e) fun f => ?_, hth2⟩
   rw [dK, if_pos HD.out, ht]; rfl
  | ok t m =>
   rw [ht] at HTK
   have HTT := zz ht
   clear ht
   refine HTK.out.mono ?_
   rintro e wt ⟨v4, rfl, _, hr4, hk4⟩
   have HBt := zz (HB3.out.keeps hk4 (fun e => by have := HLT.out; have := HCB.out; have : cb = rb := e; omega))
   have HRt := zz hr4
   have hkt := HK3.out.trans hk4
   have HKt := zz hkt
   have HEt := zz (HE.out.own hkt)
   have crt : wt.cell? ⟨w.heap.size, 0, none⟩ = some (.pointer (some ⟨rb, 0, none⟩)) := hk4.cell_of cr3 (fun e => by have := HLT.out; have : w.heap.size = rb := e; omega)
   have HCRt := zz crt
   have HRV := zz (HRV3.out.keeps hk4 (fun e => by have := HLT.out; have : w.heap.size + 1 = rb := e; omega))
   have HXt : Hid (ExIn wt (fun b => cb < b) (.pointer none) .nil) := zz rfl
   have HYt : Hid (ExIn wt (fun b => cb < b) (.pointer none) .nil) := zz rfl
   have HEVT : Hid (∀ r, Ev (fun f => (Tr.stmts E f dep true .nil m).bind fun l m2 => .ok (.mk 40 (pk E n).at_ [] .nil .nil l) m2) r -> Ev (fun f => Tr.oneCase E f dep n) r) := zz fun r hr => Ev.step (h := fun f => (Tr.stmts E f dep true .nil m).bind fun l m2 => .ok (.mk 40 (pk E n).at_ [] .nil .nil l) m2) (fun f => by rw [dK, if_pos HD.out, HTT.out]; rfl) hr
   clear hr4 hk4 hkt cr3 HTK HTT
   have HST := zz (qH HS.out wt HRt.out HEt.out HCRt.out (by have := HLT.out; omega))
   go_wp2_with fail
   refine HST.out.mono ?_
   rintro e w5 ⟨r, hev, hsay⟩
   have HEV5 : Hid (Ev (fun f => Tr.oneCase E f dep n) (r.bind fun l m2 => .ok (.mk 40 (pk E n).at_ [] .nil .nil l) m2)) := zz (HEVT.out _ (Ev.map _ (fun _ _ e => by cases e) hev))
   cases r with
   | out => exact hsay.elim
   | bad k a =>
    have hsay' : Threw wt w5 rb k a e := hsay
    obtain ⟨b, rfl⟩ := aB hsay'
    exact ⟨rfl, _, HEV5.out, hsay'.own HLT.out HKt.out⟩
   | ok l m4 =>
    obtain ⟨v5, rfl, hl5, hr5, hk5⟩ := hsay
    obtain ⟨la, ll, lc, rfl⟩ := hl5.1.form
    have hB5 := HBt.out.keeps hk5 (fun e => absurd (show cb = rb from e) (by have := HLT.out; have := HCB.out; omega))
    have hV5 := HRV.out.keeps hk5 (fun e => absurd (show w.heap.size + 1 = rb from e) (by have := HLT.out; omega))
    have c0 := hB5.at_ 0 _ rfl
    have c1 := hB5.at_ 1 _ rfl
    have c2 := hB5.at_ 2 _ rfl
    have c3 := hB5.at_ 3 _ rfl
    have c4 := hB5.at_ 4 _ rfl
    have c5 := hB5.at_ 5 _ rfl
    have z5 := hB5.free 5
    have r0 := hV5.at_ 0 _ rfl
    have r1 := hV5.at_ 1 _ rfl
    have r2 := hV5.at_ 2 _ rfl
    have r3 := hV5.at_ 3 _ rfl
    have r4 := hV5.at_ 4 _ rfl
    have r5 := hV5.at_ 5 _ rfl
    have y0 := hV5.free 0
    have y1 := hV5.free 1
    have y2 := hV5.free 2
    have y3 := hV5.free 3
    have y4 := hV5.free 4
    have y5 := hV5.free 5
    have hcr : w.heap.size + 1 ≠ cb := by have := HCB.out; omega
    have hcr2 : cb ≠ w.heap.size + 1 := fun e => hcr e.symm
    have HL5 := zz hl5
    have HR5 := zz hr5
    have HK5 := zz hk5
    have HCR := zz (show w.heap.size + 1 ≠ cb from hcr)
    clear hl5 hr5 hk5 hB5 hV5 hev
    go_wp2_with fail
    have hks : Keeps (fun b => b = cb \/ b = w.heap.size + 1) w5 (((((((w5.setCell ⟨cb, 5, none⟩ (.slice la ll lc)).setCell ⟨w.heap.size + 1, 0, none⟩ (.int .i64 (40 : Nat))).setCell ⟨w.heap.size + 1, 1, none⟩ (.int .i64 ((pk E n).at_ : Nat))).setCell ⟨w.heap.size + 1, 2, none⟩ (.string (mkT []))).setCell ⟨w.heap.size + 1, 3, none⟩ (.pointer none)).setCell ⟨w.heap.size + 1, 4, none⟩ (.pointer none)).setCell ⟨w.heap.size + 1, 5, none⟩ (.slice la ll lc)) :=
     ((((((((Keeps.refl _ w5).setCell (S := fun b => b = cb \/ b = w.heap.size + 1) (p := ⟨cb, 5, none⟩) (Or.inl (Or.inl rfl)) _).setCell (S := fun b => b = cb \/ b = w.heap.size + 1) (p := ⟨w.heap.size + 1, 0, none⟩) (Or.inl (Or.inr rfl)) _).setCell (S := fun b => b = cb \/ b = w.heap.size + 1) (p := ⟨w.heap.size + 1, 1, none⟩) (Or.inl (Or.inr rfl)) _).setCell (S := fun b => b = cb \/ b = w.heap.size + 1) (p := ⟨w.heap.size + 1, 2, none⟩) (Or.inl (Or.inr rfl)) _).setCell (S := fun b => b = cb \/ b = w.heap.size + 1) (p := ⟨w.heap.size + 1, 3, none⟩) (Or.inl (Or.inr rfl)) _).setCell (S := fun b => b = cb \/ b = w.heap.size + 1) (p := ⟨w.heap.size + 1, 4, none⟩) (Or.inl (Or.inr rfl)) _).setCell (S := fun b => b = cb \/ b = w.heap.size + 1) (p := ⟨w.heap.size + 1, 5, none⟩) (Or.inl (Or.inr rfl)) _)
    have hlt0 := HLT.out
    have hcb0 := HCB.out
    have hx : ExIn w5 (fun b => cb < b) (.pointer none) .nil := ExIn.keeps HXt.out HK5.out (fun b hb e => by have h1 : cb < b := hb; have h2 : b = rb := e; omega)
    have hy : ExIn w5 (fun b => cb < b) (.pointer none) .nil := ExIn.keeps HYt.out HK5.out (fun b hb e => by have h1 : cb < b := hb; have h2 : b = rb := e; omega)
    have hl : StsF w5 (fun b => cb < b) l (.slice la ll lc) := StsF.mono (fun b hb => by have h1 : wt.heap.size <= b := hb; have := HBt.out.lt; show cb < b; omega) HL5.out
    refine bodyPost_ret (v := .agg #[.int .i64 (40 : Nat), .int .i64 ((pk E n).at_ : Nat), .string (mkT []), .pointer none, .pointer none, .slice la ll lc]) (by simp [results, Tryz.results309, go_sem, r0, r1, r2, r3, r4, r5]) rfl ⟨.ok (.mk 40 (pk E n).at_ [] .nil .nil l) m4, HEV5.out, _, rfl, ⟨[.int .i64 (40 : Nat), .int .i64 ((pk E n).at_ : Nat), .string (mkT []), .pointer none, .pointer none, .slice la ll lc], rfl, ?_⟩, ?_, ?_⟩
    ·have hm : ∀ b, cb < b -> w.heap.size <= b := fun b e => by omega
     have hn : ∀ b, cb < b -> ¬ (b = cb \/ b = w.heap.size + 1) := fun b e e2 => by omega
     have hl2 := StsF.mono hm (StsF.keeps hl hks hn)
     exact ⟨_, _, _, rfl, ExIn.mono (fun b _ e => hm b e) _ _ (ExIn.keeps hx hks hn), ExIn.mono (fun b _ e => hm b e) _ _ (ExIn.keeps hy hks hn), hl2.1, hl2.2⟩
    ·exact HR5.out.keeps hks (fun b e => by omega)
    ·exact (HKt.out.trans HK5.out).trans' hks (fun i hi e => by omega)
 ·have hv : aO E bE n = n := by unfold aO; rw [if_neg hd]
  rw [hv, decide_eq_false hd] at HI
  have HD := zz hd
  clear hv hd
  refine HI.out.mono ?_
  rintro e w2 ⟨rfl, hr2, hk2⟩
  have hne : ¬ cb = rb := by have := HLT.out; have := HCB.out; omega
  have HB3 := zz (HB1.out.keeps hk2 hne)
  have HK3 : Hid (Keeps (fun b => b = rb) w w2) := zz ((Keeps.of_new HB2.out).trans hk2)
  have cr3 : w2.cell? ⟨w.heap.size, 0, none⟩ = some (.pointer (some ⟨rb, 0, none⟩)) := hk2.cell_of HCR2.out (fun e => by have := HLT.out; have : w.heap.size = rb := e; omega)
  have HRV3 := zz (HRV2.out.keeps hk2 (fun e => by have := HLT.out; have : w.heap.size + 1 = rb := e; omega))
  have htk := bM ⟨#[99, 97, 115, 101]⟩ (by decide) _ hr2
  rw [eC] at htk
  have HTK := zz htk
  have HNE := zz hne
  clear hr2 hk2 htk hne HI
  go_wp2_with fail
  cases ht : take E gM n with
  | out => exact absurd ht (cZ E _ _)
  | bad k a =>
   rw [ht] at HTK
   refine HTK.out.mono ?_
   rintro e w4 hth
   have hth2 := Threw.own hth HLT.out HK3.out
   obtain ⟨b, rfl⟩ := aB hth
   refine ⟨rfl, .bad k a, Ev.now (fun e => by cases e) fun f => ?_, hth2⟩
   rw [dK, if_neg HD.out, ht]; rfl
  | ok t n1 =>
   rw [ht] at HTK
   have HTT := zz ht
   clear ht
   refine HTK.out.mono ?_
   rintro e w4 ⟨v4, rfl, _, hr4, hk4⟩
   have hB4 := HB3.out.keeps hk4 HNE.out
   have hk04 := HK3.out.trans hk4
   have HTA := zz (FL w4 hr4 (HE.out.own hk04) hB4 (by have := HLT.out; have := HCB.out; omega))
   have cr4 : w4.cell? ⟨w.heap.size, 0, none⟩ = some (.pointer (some ⟨rb, 0, none⟩)) := hk4.cell_of cr3 (fun e => by have := HLT.out; have : w.heap.size = rb := e; omega)
   have HRV4 := zz (HRV3.out.keeps hk4 (fun e => by have := HLT.out; have : w.heap.size + 1 = rb := e; omega))
   have HK4 := zz hk04
   have HBL4 := zz hB4.lt
   have HEV4 : Hid (∀ r, Ev (fun f => (hH E f n1).bind fun h m2 => (take E jB m2).bind fun _ m3 => (Tr.stmts E f dep true .nil m3).bind fun l m4 => .ok (.mk h.1 (pk E n).at_ h.2.1 h.2.2.1 h.2.2.2 l) m4) r -> Ev (fun f => Tr.oneCase E f dep n) r) := zz fun r hr => Ev.step (h := fun f => (hH E f n1).bind fun h m2 => (take E jB m2).bind fun _ m3 => (Tr.stmts E f dep true .nil m3).bind fun l m4 => .ok (.mk h.1 (pk E n).at_ h.2.1 h.2.2.1 h.2.2.2 l) m4) (fun f => by rw [dK, if_neg HD.out, HTT.out]; rfl) hr
   clear hr4 hk4 hB4 hk04 HTK HTT cr3
   go_wp2_with fail
   refine HTA.out.mono ?_
   rintro e w5 ⟨r, hev, hsay⟩
   cases r with
   | out => exact hsay.elim
   | bad k a =>
    have hsay' : Threw w4 w5 rb k a e := hsay
    obtain ⟨b, rfl⟩ := aB hsay'
    exact ⟨rfl, .bad k a, HEV4.out _ (Ev.bad hev), hsay'.own HLT.out HK4.out⟩
   | ok h5 m5 =>
    obtain ⟨cc, nm, x, y⟩ := h5
    obtain ⟨rfl, ⟨o, p, hB5, hx5, hy5⟩, hr5, hk5⟩ := hsay
    have hk05 : Keeps (fun b => b = rb) w w5 := HK4.out.trans' hk5 (fun i hi e => by have := HCB.out; omega)
    have cr5 : w5.cell? ⟨w.heap.size, 0, none⟩ = some (.pointer (some ⟨rb, 0, none⟩)) := hk5.cell_of cr4 (fun e => by have := HLT.out; have := HCB.out; rcases e with e | e; (have : w.heap.size = rb := e; omega); (have : w.heap.size = cb := e; omega))
    have HRV5 := zz (HRV4.out.keeps hk5 (fun e => by have := HLT.out; have := HCB.out; omega))
    have htk := bM ⟨#[58]⟩ (by decide) _ hr5
    rw [e58] at htk
    have HTK := zz htk
    have HB5 : Hid (Blk w5 cb (ca1 cc (pk E n).at_ nm o p)) := zz hB5
    have HX5 : Hid (ExIn w5 (fun b => w4.heap.size <= b) (.pointer o) x) := zz hx5
    have HY5 : Hid (ExIn w5 (fun b => w4.heap.size <= b) (.pointer p) y) := zz hy5
    have HK5 := zz hk05
    have HEVH := zz hev
    clear hB5 hx5 hy5 hr5 hk5 hk05 htk hev cr4
    go_wp2_with fail
    cases ht : take E jB m5 with
    | out => exact absurd ht (cZ E _ _)
    | bad k a =>
     rw [ht] at HTK
     refine HTK.out.mono ?_
     rintro e w6 hth
     have hth2 := Threw.own hth HLT.out HK5.out
     obtain ⟨b, rfl⟩ := aB hth
     refine ⟨rfl, .bad k a, HEV4.out _ (Ev.then HEVH.out (Ev.pure (fun e => by cases e) fun f => ?_)), hth2⟩
     show (take E jB m5).bind _ = _
     rw [ht]; rfl
    | ok t m =>
     rw [ht] at HTK
     have HTT := zz ht
     clear ht
     refine HTK.out.mono ?_
     rintro e wt ⟨v6, rfl, _, hr6, hk6⟩
     have HBt := zz (HB5.out.keeps hk6 HNE.out)
     have HRt := zz hr6
     have hkt := HK5.out.trans hk6
     have HKt := zz hkt
     have HEt := zz (HE.out.own hkt)
     have crt : wt.cell? ⟨w.heap.size, 0, none⟩ = some (.pointer (some ⟨rb, 0, none⟩)) := hk6.cell_of cr5 (fun e => by have := HLT.out; have : w.heap.size = rb := e; omega)
     have HCRt := zz crt
     have HRV := zz (HRV5.out.keeps hk6 (fun e => by have := HLT.out; have : w.heap.size + 1 = rb := e; omega))
     have HXt : Hid (ExIn wt (fun b => cb < b) (.pointer o) x) := zz (ExIn.mono (fun b _ e => by have h1 : w4.heap.size <= b := e; have := HBL4.out; show cb < b; omega) _ _ (ExIn.keeps HX5.out hk6 (fun b hb e => by have h1 : w4.heap.size <= b := hb; have h2 : b = rb := e; have := HK4.out.size; have := HLT.out; omega)))
     have HYt : Hid (ExIn wt (fun b => cb < b) (.pointer p) y) := zz (ExIn.mono (fun b _ e => by have h1 : w4.heap.size <= b := e; have := HBL4.out; show cb < b; omega) _ _ (ExIn.keeps HY5.out hk6 (fun b hb e => by have h1 : w4.heap.size <= b := hb; have h2 : b = rb := e; have := HK4.out.size; have := HLT.out; omega)))
     have HEVT : Hid (∀ r, Ev (fun f => (Tr.stmts E f dep true .nil m).bind fun l m2 => .ok (.mk cc (pk E n).at_ nm x y l) m2) r -> Ev (fun f => Tr.oneCase E f dep n) r) := zz fun r hr => HEV4.out _ (Ev.then HEVH.out (by
      show Ev (fun f => (take E jB m5).bind fun _ m3 => (Tr.stmts E f dep true .nil m3).bind fun l m4 => .ok (.mk cc (pk E n).at_ nm x y l) m4) r
      rw [HTT.out]; exact hr))
     clear hr6 hk6 hkt cr5 HTK HTT
     have HST := zz (qH HS.out wt HRt.out HEt.out HCRt.out (by have := HLT.out; omega))
     go_wp2_with fail
     refine HST.out.mono ?_
     rintro e w5 ⟨r, hev, hsay⟩
     have HEV5 : Hid (Ev (fun f => Tr.oneCase E f dep n) (r.bind fun l m2 => .ok (.mk cc (pk E n).at_ nm x y l) m2)) := zz (HEVT.out _ (Ev.map _ (fun _ _ e => by cases e) hev))
     cases r with
     | out => exact hsay.elim
     | bad k a =>
      have hsay' : Threw wt w5 rb k a e := hsay
      obtain ⟨b, rfl⟩ := aB hsay'
      exact ⟨rfl, _, HEV5.out, hsay'.own HLT.out HKt.out⟩
     | ok l m4 =>
      obtain ⟨v5, rfl, hl5, hr5, hk5⟩ := hsay
      obtain ⟨la, ll, lc, rfl⟩ := hl5.1.form
      have hB5 := HBt.out.keeps hk5 (fun e => absurd (show cb = rb from e) (by have := HLT.out; have := HCB.out; omega))
      have hV5 := HRV.out.keeps hk5 (fun e => absurd (show w.heap.size + 1 = rb from e) (by have := HLT.out; omega))
      have c0 := hB5.at_ 0 _ rfl
      have c1 := hB5.at_ 1 _ rfl
      have c2 := hB5.at_ 2 _ rfl
      have c3 := hB5.at_ 3 _ rfl
      have c4 := hB5.at_ 4 _ rfl
      have c5 := hB5.at_ 5 _ rfl
      have z5 := hB5.free 5
      have r0 := hV5.at_ 0 _ rfl
      have r1 := hV5.at_ 1 _ rfl
      have r2 := hV5.at_ 2 _ rfl
      have r3 := hV5.at_ 3 _ rfl
      have r4 := hV5.at_ 4 _ rfl
      have r5 := hV5.at_ 5 _ rfl
      have y0 := hV5.free 0
      have y1 := hV5.free 1
      have y2 := hV5.free 2
      have y3 := hV5.free 3
      have y4 := hV5.free 4
      have y5 := hV5.free 5
      have hcr : w.heap.size + 1 ≠ cb := by have := HCB.out; omega
      have hcr2 : cb ≠ w.heap.size + 1 := fun e => hcr e.symm
      have HL5 := zz hl5
      have HR5 := zz hr5
      have HK5 := zz hk5
      have HCR := zz (show w.heap.size + 1 ≠ cb from hcr)
      clear hl5 hr5 hk5 hB5 hV5 hev
      go_wp2_with fail
      have hks : Keeps (fun b => b = cb \/ b = w.heap.size + 1) w5 (((((((w5.setCell ⟨cb, 5, none⟩ (.slice la ll lc)).setCell ⟨w.heap.size + 1, 0, none⟩ (.int .i64 (cc : Nat))).setCell ⟨w.heap.size + 1, 1, none⟩ (.int .i64 ((pk E n).at_ : Nat))).setCell ⟨w.heap.size + 1, 2, none⟩ (.string (mkT nm))).setCell ⟨w.heap.size + 1, 3, none⟩ (.pointer o)).setCell ⟨w.heap.size + 1, 4, none⟩ (.pointer p)).setCell ⟨w.heap.size + 1, 5, none⟩ (.slice la ll lc)) :=
       ((((((((Keeps.refl _ w5).setCell (S := fun b => b = cb \/ b = w.heap.size + 1) (p := ⟨cb, 5, none⟩) (Or.inl (Or.inl rfl)) _).setCell (S := fun b => b = cb \/ b = w.heap.size + 1) (p := ⟨w.heap.size + 1, 0, none⟩) (Or.inl (Or.inr rfl)) _).setCell (S := fun b => b = cb \/ b = w.heap.size + 1) (p := ⟨w.heap.size + 1, 1, none⟩) (Or.inl (Or.inr rfl)) _).setCell (S := fun b => b = cb \/ b = w.heap.size + 1) (p := ⟨w.heap.size + 1, 2, none⟩) (Or.inl (Or.inr rfl)) _).setCell (S := fun b => b = cb \/ b = w.heap.size + 1) (p := ⟨w.heap.size + 1, 3, none⟩) (Or.inl (Or.inr rfl)) _).setCell (S := fun b => b = cb \/ b = w.heap.size + 1) (p := ⟨w.heap.size + 1, 4, none⟩) (Or.inl (Or.inr rfl)) _).setCell (S := fun b => b = cb \/ b = w.heap.size + 1) (p := ⟨w.heap.size + 1, 5, none⟩) (Or.inl (Or.inr rfl)) _)
      have hlt0 := HLT.out
      have hcb0 := HCB.out
      have hx : ExIn w5 (fun b => cb < b) (.pointer o) x := ExIn.keeps HXt.out HK5.out (fun b hb e => by have h1 : cb < b := hb; have h2 : b = rb := e; omega)
      have hy : ExIn w5 (fun b => cb < b) (.pointer p) y := ExIn.keeps HYt.out HK5.out (fun b hb e => by have h1 : cb < b := hb; have h2 : b = rb := e; omega)
      have hl : StsF w5 (fun b => cb < b) l (.slice la ll lc) := StsF.mono (fun b hb => by have h1 : wt.heap.size <= b := hb; have := HBt.out.lt; show cb < b; omega) HL5.out
      refine bodyPost_ret (v := .agg #[.int .i64 (cc : Nat), .int .i64 ((pk E n).at_ : Nat), .string (mkT nm), .pointer o, .pointer p, .slice la ll lc]) (by simp [results, Tryz.results309, go_sem, r0, r1, r2, r3, r4, r5]) rfl ⟨.ok (.mk cc (pk E n).at_ nm x y l) m4, HEV5.out, _, rfl, ⟨[.int .i64 (cc : Nat), .int .i64 ((pk E n).at_ : Nat), .string (mkT nm), .pointer o, .pointer p, .slice la ll lc], rfl, ?_⟩, ?_, ?_⟩
      ·have hm : ∀ b, cb < b -> w.heap.size <= b := fun b e => by omega
       have hn : ∀ b, cb < b -> ¬ (b = cb \/ b = w.heap.size + 1) := fun b e e2 => by omega
       have hl2 := StsF.mono hm (StsF.keeps hl hks hn)
       exact ⟨_, _, _, rfl, ExIn.mono (fun b _ e => hm b e) _ _ (ExIn.keeps hx hks hn), ExIn.mono (fun b _ e => hm b e) _ _ (ExIn.keeps hy hks hn), hl2.1, hl2.2⟩
      ·exact HR5.out.keeps hks (fun b e => by omega)
      ·exact (HKt.out.trans HK5.out).trans' hks (fun i hi e => by omega)
def RowC (W : World) (F : Nat -> Prop) : List Value -> Cas -> Prop
 | cs, .nil => cs = []
 | cs, .cons s ss => ∃ vs rest, cs = vs ++ rest /\ CaC W F vs s /\ RowC W F rest ss
theorem CaC.len {F : Nat -> Prop} {vs : List Value} {s : Ca} (h : CaC w F vs s) : vs.length = 6 := by
 cases s with
 | mk => obtain ⟨tv, vv, nv, e, _⟩ := h; rw [e]; rfl
theorem RowC.keeps {F S : Nat -> Prop} (hk : Keeps S w w') (hF : ∀ b, F b -> ¬ S b) : ∀ (l : Cas) (cs : List Value), RowC w F cs l -> RowC w' F cs l
 | .nil, _, h => h
 | .cons s ss, cs, h => by
  obtain ⟨vs, rest, e, h1, h2⟩ := h
  exact ⟨vs, rest, e, h1.keeps hk hF, RowC.keeps hk hF ss rest h2⟩
theorem RowC.mono {F G : Nat -> Prop} (hF : ∀ b, b < w.heap.size -> F b -> G b) : ∀ (l : Cas) (cs : List Value), RowC w F cs l -> RowC w G cs l
 | .nil, _, h => h
 | .cons s ss, cs, h => by
  obtain ⟨vs, rest, e, h1, h2⟩ := h
  exact ⟨vs, rest, e, h1.mono hF, RowC.mono hF ss rest h2⟩
theorem RowC.snoc {F : Nat -> Prop} {vs : List Value} {s : Ca} (hs : CaC w F vs s) : ∀ (l : Cas) (cs : List Value), RowC w F cs l -> RowC w F (cs ++ vs) (l.snoc s)
 | .nil, cs, h => by
  have : cs = [] := h
  subst this
  exact ⟨vs, [], by simp, hs, rfl⟩
 | .cons s ss, cs, h => by
  obtain ⟨us, rest, e, h1, h2⟩ := h
  exact ⟨us, rest ++ vs, by rw [e, List.append_assoc], h1, RowC.snoc hs ss rest h2⟩
theorem RowC.lies {F : Nat -> Prop} {g : Nat} : ∀ (l : Cas) (cs : List Value) (i : Nat), (∀ j v, cs[j]? = some v -> w.cell? ⟨g, i * 6 + j, none⟩ = some v) -> RowC w F cs l -> CasIn w F g i l
 | .nil, _, _, _, _ => trivial
 | .cons s ss, cs, i, hc, h => by
  obtain ⟨us, rest, e, h1, h2⟩ := h
  have hl := h1.len
  refine ⟨?_, RowC.lies ss rest (i + 1) (fun j v hj => ?_) h2⟩
  ·cases s with
   | mk code at_ name dst val body =>
    obtain ⟨tv, vv, nv, e2, h3⟩ := h1
    subst e2
    subst e
    refine ⟨tv, vv, nv, hc 0 _ rfl, hc 1 _ rfl, hc 2 _ rfl, hc 3 _ rfl, hc 4 _ rfl, hc 5 _ rfl, h3⟩
  ·have h4 := hc (us.length + j) v (by rw [e, List.getElem?_append_right (by omega)]; simpa using hj)
   rw [hl] at h4
   rw [show (i + 1) * 6 + j = i * 6 + (6 + j) by omega]
   exact h4
theorem Cas.len_snoc : ∀ (xs : Cas) (y : Ca), (xs.snoc y).len = xs.len + 1
 | .nil, _ => rfl
 | .cons _ xs, y => congrArg (· + 1) (Cas.len_snoc xs y)
theorem sN : (Tryz.prog.info? 134).map (fun i => (i.zero, i.size, i.bytes)) = some (some (.agg #[.int .i64 0, .int .i64 0, .string ByteArray.empty, .pointer none, .pointer none, .slice none 0 0]), 6, 72) := by kernel_rfl
def CasF (w : World) (F : Nat -> Prop) (l : Cas) (v : Value) : Prop := SlAt F v l.len /\ ∀ g n cap, v = .slice (some ⟨g, 0, none⟩) n cap -> CasIn w F g 0 l
theorem CasF.keeps {F S : Nat -> Prop} {l : Cas} {v : Value} (h : CasF w F l v) (hk : Keeps S w w') (hF : ∀ b, F b -> ¬ S b) : CasF w' F l v :=
 ⟨h.1, fun g n cap e => CasIn.keeps hk hF g (h.1.mem e) 0 l (h.2 g n cap e)⟩
theorem CasF.mono {F G : Nat -> Prop} (hF : ∀ b, F b -> G b) {l : Cas} {v : Value} (h : CasF w F l v) : CasF w G l v := ⟨h.1.mono hF, fun g n cap e => CasIn.mono hF g 0 l (h.2 g n cap e)⟩
def rR (A : Nat) (v : Value) : List Value := [.int .i64 (14 : Nat), .int .i64 (A : Nat), .string (mkT []), .pointer none, .pointer none, .slice none 0 0, .slice none 0 0, v]
structure CasJ (w : World) (rb : Nat) (tv : Value) (E : Env) (dep rv sv sb A : Nat) (G : Res Cas -> Prop) (wr : World) (m : Nat) (acc : Cas) : Prop where
 rd : RdAt wr rb tv E m dep
 env : TEnv rb E wr
 kp : Keeps (fun b => b = rb \/ b = sb) w wr
 cr : wr.cell? ⟨rv, 0, none⟩ = some (.pointer (some ⟨rb, 0, none⟩))
 cs : wr.cell? ⟨sv, 0, none⟩ = some (.pointer (some ⟨sb, 0, none⟩))
 row : ∃ v vals, Blk wr sb (rR A v) /\ wr.ownsRow w.heap.size 134 6 v acc.len vals /\ RowC wr (fun b => w.heap.size <= b /\ some b ≠ v.ownBlock) vals acc /\ (acc.len = 0 -> v = .slice none 0 0)
 al : acc.len <= m
 lo : rb < sb /\ sb < rv /\ rv < sv /\ sv < w.heap.size
 ev : ∀ r, Ev (fun f => Tr.cases E f dep acc m) r -> G r
theorem CasJ.on {dep rv sv sb A m m2 : Nat} {G G2 : Res Cas -> Prop} {wr w2 : World} {acc : Cas} (h : CasJ w rb tv E dep rv sv sb A G wr m acc) (hm : m <= m2) (hk : Keeps (fun b => b = rb) wr w2) (hr : RdAt w2 rb tv E m2 dep)
  (hev : ∀ r, Ev (fun f => Tr.cases E f dep acc m2) r -> G2 r) : CasJ w rb tv E dep rv sv sb A G2 w2 m2 acc := by
 obtain ⟨v, vals, h0, h1, h2, h3⟩ := h.row
 have hlo := h.lo
 refine ⟨hr, h.env.own hk, h.kp.trans (hk.mono (fun _ _ e => Or.inl e)), hk.cell_of h.cr (fun e => by have : rv = rb := e; omega), hk.cell_of h.cs (fun e => by have : sv = rb := e; omega), ⟨v, vals, h0.keeps hk (fun e => by have : sb = rb := e; omega), hk.row h1 (fun b e e2 => by have := (a8 h1 b e).1; have : b = rb := e2; omega), RowC.keeps hk (fun b e e2 => by have := e.1; have : b = rb := e2; omega) _ _ h2, h3⟩, Nat.le_trans h.al hm, hlo, hev⟩
theorem CasJ.next {dep rv sv sb A m m1 cap5 : Nat} {ao5 : Option Addr} {G : Res Cas -> Prop} {wr w2 w5 : World} {acc : Cas} {v : Value} {vals vs : List Value} {s : Ca} {o : Obj} (h : CasJ w rb tv E dep rv sv sb A G wr m acc) (hblk : Blk wr sb (rR A v)) (hrow : wr.ownsRow w.heap.size 134 6 v acc.len vals) (hvals : RowC wr (fun b => w.heap.size <= b /\ some b ≠ v.ownBlock) vals acc)
  (hm : m < m1) (hk : Keeps (fun b => b = rb) wr w2) (hr : RdAt w2 rb tv E m1 dep) (hs : CaC w2 (fun b => wr.heap.size <= b) vs s) (hg : (w2.alloc o).grownBy w5 v.ownBlock) (ho : w5.ownsRow w.heap.size 134 6 (.slice ao5 (acc.len + 1) cap5) (acc.len + 1) (vals ++ vs))
  (hnew : (Value.slice ao5 (acc.len + 1) cap5).ownBlock = v.ownBlock \/ (Value.slice ao5 (acc.len + 1) cap5).ownBlock = some (w2.heap.size + 1)) (hev : ∀ r, Ev (fun f => Tr.cases E f dep (acc.snoc s) m1) r -> G r) : CasJ w rb tv E dep rv sv sb A G (w5.setCell ⟨sb, 7, none⟩ (.slice ao5 (acc.len + 1) cap5)) m1 (acc.snoc s) := by
 have hlo := h.lo
 have hwr := h.kp.size
 have hw2 := hk.size
 have hk5 : Keeps (fun b => v.ownBlock = some b) w2 w5 := ((Keeps.refl (fun b => v.ownBlock = some b) w2).alloc o).trans' (Keeps.of_grownBy hg (fun k _ e => e)) (fun _ _ e => e)
 have hks : Keeps (fun b => b = sb) w5 (w5.setCell ⟨sb, 7, none⟩ (.slice ao5 (acc.len + 1) cap5)) := mB
 have hge := a8 hrow
 have hb2 : Blk w2 sb (rR A v) := hblk.keeps hk (fun e => by have : sb = rb := e; omega)
 have hb5 : Blk w5 sb (rR A v) := hb2.keeps hk5 (fun e => by have := (hge sb e).1; omega)
 have hgn : ∀ b, (Value.slice ao5 (acc.len + 1) cap5).ownBlock = some b -> w.heap.size <= b := fun b e => by
  rcases hnew with h3 | h3
  ·exact (hge b (h3 ▸ e)).1
  ·rw [h3] at e; have := Option.some.inj e; omega
 have hfar : ∀ b : Nat, b ≠ sb -> b < w.heap.size -> ∀ x, w2.cell? ⟨b, 0, none⟩ = some x -> (w5.setCell ⟨sb, 7, none⟩ (.slice ao5 (acc.len + 1) cap5)).cell? ⟨b, 0, none⟩ = some x := fun b h1 h2 x hx => hks.cell_of (hk5.cell_of hx (fun e => by have := (hge b e).1; omega)) h1
 refine ⟨(hr.keeps hk5 (fun b e => by have := (hge b e).1; omega)).keeps hks (fun b e => by have : b = sb := e; omega), ((h.env.own hk).keeps hk5 (fun b e => by have := (hge b e).1; omega)).keeps hks (fun b e => by have : b = sb := e; omega), ((h.kp.trans (hk.mono (fun _ _ e => Or.inl e))).trans' hk5 (fun i hi e => by have := (hge i e).1; omega)).trans (hks.mono (fun _ _ e => Or.inr e)), hfar rv (by omega) (by omega) _ (hk.cell_of h.cr (fun e => by have : rv = rb := e; omega)), hfar sv (by omega) (by omega) _ (hk.cell_of h.cs (fun e => by have : sv = rb := e; omega)), ⟨_, vals ++ vs, hb5.set 7 (.slice ao5 (acc.len + 1) cap5) (by simp [rR]), ?_, ?_, fun e => absurd e (by rw [Cas.len_snoc]; omega)⟩, by rw [Cas.len_snoc]; have := h.al; omega, hlo, hev⟩
 ·rw [Cas.len_snoc]
  exact hks.row ho (fun b e e2 => by have := hgn b e; have : b = sb := e2; omega)
 ·have hx : ∀ b, (w.heap.size <= b /\ some b ≠ (Value.slice ao5 (acc.len + 1) cap5).ownBlock) -> ¬ (b = sb) := fun b e e2 => by have := e.1; omega
  refine RowC.snoc (CaC.keeps ?_ hks hx) _ _ (RowC.keeps hks hx _ _ ?_)
  ·have h1 : CaC w2 (fun b => w.heap.size <= b /\ some b ≠ v.ownBlock /\ some b ≠ (Value.slice ao5 (acc.len + 1) cap5).ownBlock) vs s := CaC.mono (fun b hb e => by
    refine ⟨by have : wr.heap.size <= b := e; omega, fun h2 => ?_, fun h2 => ?_⟩
    ·have := (hge b h2.symm).2; have : wr.heap.size <= b := e; omega
    ·rcases hnew with h3 | h3
     ·have := (hge b (by rw [<- h3]; exact h2.symm)).2; have : wr.heap.size <= b := e; omega
     ·rw [h3] at h2; have := Option.some.inj h2; omega) hs
   exact CaC.mono (fun b _ e => ⟨e.1, e.2.2⟩) (h1.keeps hk5 (fun b e e2 => e.2.1 e2.symm))
  ·have h1 : RowC w2 (fun b => w.heap.size <= b /\ some b ≠ v.ownBlock /\ some b ≠ (Value.slice ao5 (acc.len + 1) cap5).ownBlock) vals acc := RowC.mono (fun b hb e => by
    refine ⟨e.1, e.2, fun h2 => ?_⟩
    rcases hnew with h3 | h3
    ·exact e.2 (by rw [<- h3]; exact h2)
    ·rw [h3] at h2; have := Option.some.inj h2; omega) _ _ (RowC.keeps hk (fun b e e2 => by have := e.1; have : b = rb := e2; omega) _ _ hvals)
   exact RowC.mono (fun b _ e => ⟨e.1, e.2.2⟩) _ _ (RowC.keeps hk5 (fun b e e2 => e.2.1 e2.symm) _ _ h1)
theorem CasJ.cases {dep rv sv sb A m : Nat} {G : Res Cas -> Prop} {wr : World} {acc : Cas} (h : CasJ w rb tv E dep rv sv sb A G wr m acc) : ∃ v, Blk wr sb (rR A v) /\ CasF wr (fun b => w.heap.size <= b) acc v := by
 obtain ⟨v, vals, h0, h1, h2, h3⟩ := h.row
 refine ⟨v, h0, ?_, fun g k cap e => ?_⟩
 ·by_cases hz : acc.len = 0
  ·exact Or.inl ⟨h3 hz, hz⟩
  ·rcases h1.2 with ⟨_, e⟩ | ⟨g, cap, cur, e1, e2, _, e3, e4, _⟩
   ·exact absurd e hz
   ·exact Or.inr ⟨g, cap, e1, e3, e4, Nat.pos_of_ne_zero hz, e2⟩
 ·rcases h1.2 with ⟨e2, _⟩ | ⟨g', cap', cur, e2, e3, _⟩
  ·rw [e] at e2; cases e2
  ·rw [e] at e2
   cases e2
   subst e
   refine RowC.lies acc vals 0 (fun j v hj => ?_) (RowC.mono (fun b _ hb => hb.1) _ _ h2)
   rw [show 0 * 6 + j = j by omega, World.ownsRow.cellAt h1 j (by have := (List.getElem?_eq_some_iff.1 hj).1; have := h1.1; omega)]
   exact hj
theorem cE {P : Program} {ops : Array Oper} {o : Oper} {a : Act} {w : World} {K : Act -> World -> Prop} {Q : Exit -> Act -> World -> Prop} {F : Prop}
  (hg : o.guard = none) (s x : Operand) (t e : TypeId) (hop : o.op = Op.call { callee := Callee.builtin Builtin.append, args := #[s, x], argTypes := #[t, t] })
  (i : TypeInfo) (z : Value) (size bytes : Nat) (h1 : P.underlying t = some (.slice e)) (h2 : P.info? e = some i) (h3 : i.zero = some z) (h4 : i.size = size) (h5 : i.bytes = bytes) (h6 : z.cells.size = size) (h7 : 0 < size)
  (base : Nat) (v : Value) (n : Nat) (xs : List Value) (hown : w.ownsRow base e size v n xs) (hn : n + 1 <= maxLen) (hbytes : (n + 1) * bytes <= 140737488355328) (hbase : base <= w.heap.size)
  (ad : Addr) (ys : List Value) (hy : ys.length = 1 * size) (hc : ∀ j u, ys[j]? = some u -> w.cell? (ad.add j) = some u) (h1c : ∀ u ∈ ys, u.oneCell' = true)
  (hs : a.eval s = v) (hx : a.eval x = .slice (some ad) 1 1)
  (hK : ∀ ao' cap' w', w'.ownsRow base e size (.slice ao' (n + 1) cap') (n + 1) (xs ++ ys) -> w.grownBy w' v.ownBlock -> ((Value.slice ao' (n + 1) cap').ownBlock = v.ownBlock \/ (Value.slice ao' (n + 1) cap').ownBlock = some w.heap.size) -> K (a.put o.dst (.slice ao' (n + 1) cap')) w') :
  if Region.wanted o (yielded ops a.tmps) = true then Oper.wp P o a w K Q else F := by
 have hw : Region.wanted o (yielded ops a.tmps) = true := by simp [Region.wanted, hg]
 rw [if_pos hw]
 obtain ⟨v', w', hrun, r1, r2, _, r4⟩ := run_append_own_at (P := P) w base t o.type e i z size bytes h1 h2 h3 h4 h5 h6 h7 v n xs hown ad 1 1 ys hy hc h1c hn hbytes hbase
 have hv' : ∃ ao' cap', v' = .slice ao' (n + 1) cap' := by
  rcases r1.2 with ⟨_, h0⟩ | ⟨g, cap', cur, rfl, _⟩
  ·omega
  ·exact ⟨_, _, rfl⟩
 obtain ⟨ao', cap', rfl⟩ := hv'
 unfold Oper.wp
 simp [execOp, hop, resolve, invoke, builtin, hs, hx, hrun, Result.andThen]
 exact hK _ _ _ r1 r2 r4
theorem qI {dep rv sv sb A : Nat} (hC : wH rb tv E (dep + 1)) (hE : TEnv rb E w) (cr : w.cell? ⟨rv, 0, none⟩ = some (.pointer (some ⟨rb, 0, none⟩))) (cs : w.cell? ⟨sv, 0, none⟩ = some (.pointer (some ⟨sb, 0, none⟩))) (hB : Blk w sb (rR A (.slice none 0 0))) (hlo : rb < sb /\ sb < rv /\ rv < sv) :
  I3 w rb tv E dep 308 #[.pointer (some ⟨rv, 0, none⟩), .pointer (some ⟨sv, 0, none⟩)] (fun b => b = rb \/ b = sb) (fun n1 r => Ev (fun f => Tr.cases E f (dep + 1) .nil n1) r) (fun W W' l => ∃ v, Blk W' sb (rR A v) /\ CasF W' (fun b => W.heap.size <= b) l v) := by
 intro W n1 hk h
 have hsv : sv < W.heap.size := Nat.lt_of_lt_of_le (block_lt_of_cell cs) hk.size
 have HI0 : Hid (CasJ W rb tv E (dep + 1) rv sv sb A (fun r => Ev (fun f => Tr.cases E f (dep + 1) .nil n1) r) W n1 .nil) := zz ⟨h, hE.own hk, Keeps.refl _ _, hk.cell_of cr (fun e => by have : rv = rb := e; omega), hk.cell_of cs (fun e => by have : sv = rb := e; omega), ⟨_, [], hB.keeps hk (fun e => by have : sb = rb := e; omega), World.ownsRow_nil _ _ _ _, rfl, fun _ => rfl⟩, Nat.zero_le _, ⟨hlo.1, hlo.2.1, hlo.2.2, hsv⟩, fun _ h => h⟩
 have HC := zz hC
 have HLT := zz h.lt
 have HLO := zz hlo
 have HSV := zz hsv
 have e125 : (⟨#[125]⟩ : ByteArray).data.toList = tRb := rfl
 obtain ⟨i0, hi0, hz0, hz1, hz2⟩ := mC sN
 clear hC hE cr cs hB hlo hk h hsv
 go_enter Tryz.func308, Tryz.ntmps308
 go_wp2_with fail
 go_loopw [] (fun wr => ∃ m acc, CasJ W rb tv E (dep + 1) rv sv sb A (fun r => Ev (fun f => Tr.cases E f (dep + 1) .nil n1) r) wr m acc) (fun wr => E.toks.length - nG wr rb)
 case atStart => exact ⟨n1, .nil, HI0.out⟩
 case round =>
  obtain ⟨m, acc, hj⟩ := hrel
  have HJ := zz hj
  have crr := hj.cr
  have HIS := fP ⟨#[125]⟩ wr hj.rd
  rw [e125] at HIS
  have HI := zz HIS
  clear hj HIS
  by_cases hrb : (pk E m).text = tRb
  ·rw [decide_eq_true hrb] at HI
   have HRB := zz hrb
   clear hrb
   go_wp2_with fail
   refine HI.out.mono ?_
   rintro e w1 ⟨rfl, hb1⟩
   have hj1 := HJ.out.on (G2 := fun r => Ev (fun f => Tr.cases E f (dep + 1) .nil n1) r) (Nat.le_refl _) (Keeps.of_new hb1) (HJ.out.rd.fresh hb1) HJ.out.ev
   have HJ1 := zz hj1
   clear hb1 hj1 crr
   go_wp2_with fail
   go_end0
   refine ⟨.ok acc m, HJ.out.ev _ (Ev.now (fun e => by cases e) fun f => ?_), rfl, HJ1.out.cases, HJ1.out.rd, HJ1.out.kp⟩
   rw [hY, if_pos HRB.out]
  ·rw [decide_eq_false hrb] at HI
   have HRB := zz hrb
   clear hrb
   go_wp2_with fail
   refine HI.out.mono ?_
   rintro e w1 ⟨rfl, hb1⟩
   have hj1 := HJ.out.on (G2 := fun r => Ev (fun f => Tr.cases E f (dep + 1) .nil n1) r) (Nat.le_refl _) (Keeps.of_new hb1) (HJ.out.rd.fresh hb1) HJ.out.ev
   have HJ1 := zz hj1
   obtain ⟨av, vals, hblk, hown, hvals, hzero⟩ := hj1.row
   have hform : ∃ ao cap, av = .slice ao acc.len cap := by
    rcases hown.2 with ⟨e1, e2⟩ | ⟨g, cap, cur, e1, _⟩
    ·exact ⟨none, 0, by rw [e1, e2]⟩
    ·exact ⟨_, _, e1⟩
   have cr1 := hj1.cr
   have cs1 := hj1.cs
   have c7 := hblk.at_ 7 _ rfl
   obtain ⟨ao0, cap0, rfl⟩ := hform
   have HBLK := zz hblk
   have HOWN := zz hown
   have HVAL := zz hvals
   clear hb1 hj1 crr hblk hown hvals hzero
   go_wp2_with fail
   change Code.wp _ _ _ _ _
   have HRD := zz (HJ1.out.rd.fresh (Below.drew (Below.refl _ _)))
   by_cases h6 : 6 <= acc.len
   ·have HRM : Hid (Calls Tryz.prog 111 #[.pointer (some ⟨rb, 0, none⟩), .int .i64 (acc.len : Nat), .int .i64 6] w1.drew fun e w' => Threw w1.drew w' rb 4 (pk E m).at_ e) := zz ((fV acc.len 6 w1.drew HRD.out).mono fun e w' h => by rw [if_pos h6] at h; exact h)
    have H6 := zz h6
    clear h6
    refine wp_region_held_drew (S := (fun W' : World => W'.cell? ⟨rv, 0, none⟩ = some (.pointer (some ⟨rb, 0, none⟩)) /\ W'.cell? ⟨sv, 0, none⟩ = some (.pointer (some ⟨sb, 0, none⟩)) /\ W'.cell? ⟨sb, 7, none⟩ = some (.slice ao0 acc.len cap0))) (by kernel_rfl) ⟨by simp only [World.cell?_drew]; assumption, by simp only [World.cell?_drew]; assumption, by simp only [World.cell?_drew]; assumption⟩ (fun hHeld => ?_)
    refine tk 0 5 (.pointer (some ⟨rb, 0, none⟩)) rfl (.inl ⟨by rfl, ?_⟩) hHeld ?_
    ·intro W9 hSW; (try dsimp only at hSW); go_simp
    try simp only [Act.put, sA, sB, sC]
    refine tk 1 6 (.pointer (some ⟨sb, 0, none⟩)) rfl (.inl ⟨by rfl, ?_⟩) hHeld ?_
    ·intro W9 hSW; (try dsimp only at hSW); go_simp
    try simp only [Act.put, sA, sB, sC]
    refine tk 2 7 (.pointer (some ⟨sb, 0, none⟩)) rfl (.inl ⟨by rfl, ?_⟩) hHeld ?_
    ·intro W9 hSW; (try dsimp only at hSW); go_simp
    try simp only [Act.put, sA, sB, sC]
    refine tk 3 8 (.pointer (some ⟨sb, 7, none⟩)) rfl (.inl ⟨by rfl, ?_⟩) hHeld ?_
    ·intro W9 hSW; (try dsimp only at hSW); go_simp
    try simp only [Act.put, sA, sB, sC]
    refine tk 4 9 (.slice ao0 acc.len cap0) rfl (.inl ⟨by rfl, ?_⟩) hHeld ?_
    ·intro W9 hSW; (try dsimp only at hSW); go_simp
    try simp only [Act.put, sA, sB, sC]
    refine tk 5 10 (.int .i64 (acc.len : Nat)) rfl (.inl ⟨by rfl, ?_⟩) hHeld ?_
    ·intro W9 hSW; (try dsimp only at hSW); go_simp
    try simp only [Act.put, sA, sB, sC]
    refine ra 6 (some 11) rfl fun K hK => ?_
    go_simp
    go_at_call 111
    refine HRM.out.mono ?_
    rintro e w3 hth
    have hth' : Threw w1.drew w3 rb 4 (pk E m).at_ e := hth
    obtain ⟨b, rfl⟩ := aB hth'
    refine ⟨rfl, .bad 4 (pk E m).at_, HJ.out.ev _ (Ev.now (fun e => by cases e) fun f => ?_), hth'.with HLT.out (HJ1.out.kp.drew) (fun b e => by have := HLO.out; omega)⟩
    rw [hY, if_neg HRB.out, if_pos H6.out]; rfl
   ·have HRM : Hid (Calls Tryz.prog 111 #[.pointer (some ⟨rb, 0, none⟩), .int .i64 (acc.len : Nat), .int .i64 6] w1.drew fun e w' => e = .returned (.tuple #[]) /\ w1.drew = w') := zz ((fV acc.len 6 w1.drew HRD.out).mono fun e w' h => by rw [if_neg h6] at h; exact h)
    have H6 := zz h6
    clear h6
    refine wp_region_held_drew (S := (fun W' : World => W'.cell? ⟨rv, 0, none⟩ = some (.pointer (some ⟨rb, 0, none⟩)) /\ W'.cell? ⟨sv, 0, none⟩ = some (.pointer (some ⟨sb, 0, none⟩)) /\ W'.cell? ⟨sb, 7, none⟩ = some (.slice ao0 acc.len cap0))) (by kernel_rfl) ⟨by simp only [World.cell?_drew]; assumption, by simp only [World.cell?_drew]; assumption, by simp only [World.cell?_drew]; assumption⟩ (fun hHeld => ?_)
    refine tk 0 5 (.pointer (some ⟨rb, 0, none⟩)) rfl (.inl ⟨by rfl, ?_⟩) hHeld ?_
    ·intro W9 hSW; (try dsimp only at hSW); go_simp
    try simp only [Act.put, sA, sB, sC]
    refine tk 1 6 (.pointer (some ⟨sb, 0, none⟩)) rfl (.inl ⟨by rfl, ?_⟩) hHeld ?_
    ·intro W9 hSW; (try dsimp only at hSW); go_simp
    try simp only [Act.put, sA, sB, sC]
    refine tk 2 7 (.pointer (some ⟨sb, 0, none⟩)) rfl (.inl ⟨by rfl, ?_⟩) hHeld ?_
    ·intro W9 hSW; (try dsimp only at hSW); go_simp
    try simp only [Act.put, sA, sB, sC]
    refine tk 3 8 (.pointer (some ⟨sb, 7, none⟩)) rfl (.inl ⟨by rfl, ?_⟩) hHeld ?_
    ·intro W9 hSW; (try dsimp only at hSW); go_simp
    try simp only [Act.put, sA, sB, sC]
    refine tk 4 9 (.slice ao0 acc.len cap0) rfl (.inl ⟨by rfl, ?_⟩) hHeld ?_
    ·intro W9 hSW; (try dsimp only at hSW); go_simp
    try simp only [Act.put, sA, sB, sC]
    refine tk 5 10 (.int .i64 (acc.len : Nat)) rfl (.inl ⟨by rfl, ?_⟩) hHeld ?_
    ·intro W9 hSW; (try dsimp only at hSW); go_simp
    try simp only [Act.put, sA, sB, sC]
    refine ra 6 (some 11) rfl fun K hK => ?_
    go_simp
    go_at_call 111
    refine HRM.out.mono ?_
    rintro e w3 ⟨rfl, rfl⟩
    refine hK.out _ _ hHeld (fun hHeld => ?_)
    clear hK K
    refine wpAnyH_done (by kernel_rfl) ?_ _
    go_wp2_with fail
    change Code.wp _ _ _ _ _
    have c7d : w1.drew.drew.cell? ⟨sb, 7, none⟩ = some (.slice ao0 acc.len cap0) := c7
    have g1 : (⟨sb, 7, none⟩ : Addr).block ≠ (⟨rv, 0, none⟩ : Addr).block := fun e => by have := HLO.out; have : sb = rv := e; omega
    have g2 : (⟨sb, 7, none⟩ : Addr).block ≠ (⟨sv, 0, none⟩ : Addr).block := fun e => by have := HLO.out; have : sb = sv := e; omega
    have HRD2 := zz (HRD.out.fresh (Below.drew (Below.refl _ _)))
    have HCC := zz (HC.out m w1.drew.drew HRD2.out ((HJ1.out.env.fresh (Below.drew (Below.refl _ _))).fresh (Below.drew (Below.refl _ _))))
    have HKD : Hid (Keeps (fun b => b = rb \/ b = sb) W w1.drew.drew) := zz HJ1.out.kp.drew.drew
    have HSEQ : Hid (∀ r, Ev (fun f => (Tr.oneCase E f (dep + 1) m).bind fun c m => Tr.cases E f (dep + 1) (acc.snoc c) m) r -> Ev (fun f => Tr.cases E f (dep + 1) .nil n1) r) := zz fun r hr => HJ.out.ev _ (Ev.step (h := fun f => (Tr.oneCase E f (dep + 1) m).bind fun c m => Tr.cases E f (dep + 1) (acc.snoc c) m) (fun f => by rw [hY, if_neg HRB.out, if_neg H6.out]) hr)
    have hal : acc.len <= 10 := by have := H6.out; omega
    have HML : Hid (acc.len + 1 <= maxLen) := zz (by unfold maxLen; omega)
    have HBY : Hid ((acc.len + 1) * 72 <= 140737488355328) := zz (by omega)
    clear hal
    refine wp_region_held_drew (S := (fun W' : World => W'.cell? ⟨rv, 0, none⟩ = some (.pointer (some ⟨rb, 0, none⟩)) /\ W'.cell? ⟨sv, 0, none⟩ = some (.pointer (some ⟨sb, 0, none⟩)))) (by kernel_rfl) ⟨by simp only [World.cell?_drew]; assumption, by simp only [World.cell?_drew]; assumption⟩ (fun hHeld => ?_)
    refine tk 0 12 (.pointer (some ⟨sb, 0, none⟩)) rfl (.inl ⟨by rfl, ?_⟩) hHeld ?_
    ·intro W9 hSW; (try dsimp only at hSW); go_simp
    try simp only [Act.put, sA, sB, sC]
    refine tk 1 13 (.pointer (some ⟨sb, 0, none⟩)) rfl (.inl ⟨by rfl, ?_⟩) hHeld ?_
    ·intro W9 hSW; (try dsimp only at hSW); go_simp
    try simp only [Act.put, sA, sB, sC]
    refine tk 2 14 (.pointer (some ⟨sb, 0, none⟩)) rfl (.inl ⟨by rfl, ?_⟩) hHeld ?_
    ·intro W9 hSW; (try dsimp only at hSW); go_simp
    try simp only [Act.put, sA, sB, sC]
    refine tk 3 15 (.pointer (some ⟨sb, 7, none⟩)) rfl (.inl ⟨by rfl, ?_⟩) hHeld ?_
    ·intro W9 hSW; (try dsimp only at hSW); go_simp
    try simp only [Act.put, sA, sB, sC]
    refine tk 5 17 (.pointer (some ⟨rb, 0, none⟩)) rfl (.inl ⟨by rfl, ?_⟩) hHeld ?_
    ·intro W9 hSW; (try dsimp only at hSW); go_simp
    try simp only [Act.put, sA, sB, sC]
    refine wpAnyH_ready (rs := [4, 6]) (by kernel_rfl) (by simp) ?_
    refine AllReadyH.cons (o := { dst := some 16, op := _, type := _, pos := _, after := _, guard := _ }) rfl (fun K hK => ?_) (AllReadyH.cons (o := { dst := some 18, op := _, type := _, pos := _, after := _, guard := _ }) rfl (fun K hK => ?_) AllReadyH.nil)
    ·go_simp
     refine hK.out _ _ hHeld (fun hHeld => ?_)
     clear hK K
     refine ra 6 (some 18) rfl fun K hK => ?_
     go_simp
     go_at_call 309
     refine HCC.out.mono ?_
     rintro e w2 ⟨r, hev, hsay⟩
     rcases r with _ | ⟨k, a⟩ | ⟨s, m'⟩
     ·exact hsay.elim
     ·have hsay' : Threw _ w2 rb k a e := hsay
      obtain ⟨b, rfl⟩ := aB hsay'
      exact ⟨rfl, .bad k a, HSEQ.out _ (Ev.bad hev), hsay'.with HLT.out HKD.out (fun b e => by have := HLO.out; omega)⟩
     obtain ⟨v2, rfl, ⟨vs, rfl, hc2⟩, hr2, hk2⟩ := hsay
     cases s with
     | mk code at_ name dst val body =>
     have hc2' := hc2
     obtain ⟨tv2, vv2, nv2, e2, hx1, hx2, hx3, _⟩ := hc2'
     obtain ⟨o1, rfl⟩ := aL hx1
     obtain ⟨o2, rfl⟩ := aL hx2
     obtain ⟨a3, l3, k3, rfl⟩ := hx3.form
     have hkw2 : Keeps (fun b => b = rb) w1 w2 := ((Keeps.refl (fun b => b = rb) w1).drew.drew).trans hk2
     have hm1 := pZ hev
     have hb2 := HBLK.out.keeps hkw2 (fun e => by have := HLO.out; have : sb = rb := e; omega)
     have y4 := hb2.at_ 7 _ rfl
     have y5 := hb2.free 7
     have y1 : w2.cell? ⟨rv, 0, none⟩ = some (.pointer (some ⟨rb, 0, none⟩)) := hkw2.cell_of cr1 (fun e => by have := HLO.out; have : rv = rb := e; omega)
     have y2 : w2.cell? ⟨sv, 0, none⟩ = some (.pointer (some ⟨sb, 0, none⟩)) := hkw2.cell_of cs1 (fun e => by have := HLO.out; have : sv = rb := e; omega)
     have q1 : rv < w2.heap.size := block_lt_of_cell y1
     have q2 : sv < w2.heap.size := block_lt_of_cell y2
     have q4 : sb < w2.heap.size := hb2.lt
     have hown2 : w2.ownsRow W.heap.size 134 6 (.slice ao0 acc.len cap0) acc.len vals := hkw2.row HOWN.out (fun b e e2 => by have := (a8 HOWN.out b e).1; have := HLT.out; have : b = rb := e2; omega)
     have hsz2 : W.heap.size <= w2.heap.size := Nat.le_trans HJ1.out.kp.size hkw2.size
     have HH1 : Hid (∀ x ∈ vs, x.oneCell' = true) := zz (fun x hx => by rw [e2] at hx; simp at hx; rcases hx with rfl | rfl | rfl | rfl | rfl | rfl <;> rfl)
     have HCN := zz (eR w2 vs 134)
     have HOW2 := zz hown2
     have HC2 := zz hc2
     have HR2 := zz hr2
     have HK2 := zz hkw2
     have HEV := zz hev
     have HM1 := zz hm1
     have HSZ := zz hsz2
     clear hx1 hx2 hx3 hc2 hr2 hk2 hkw2 hev hown2 hm1 hsz2 hb2
     subst e2
     refine hK.out _ _ ⟨y1, y2⟩ (fun hHeld => ?_)
     clear hK K
     refine ra 7 (some 19) rfl fun K hK => ?_
     go_simp
     refine hK.out _ _ ⟨by rw [World.cell?_alloc_lt _ _ _ (by assumption)]; assumption, by rw [World.cell?_alloc_lt _ _ _ (by assumption)]; assumption⟩ (fun hHeld => ?_)
     clear hK K
     refine ra 8 (some 20) rfl fun K hK => ?_
     refine cE rfl (.tmp 16) (.tmp 19) 69 134 rfl i0 (.agg #[.int .i64 0, .int .i64 0, .string ByteArray.empty, .pointer none, .pointer none, .slice none 0 0]) 6 72 Tryz.underlying69 hi0 hz0 hz1 hz2 rfl (by decide) W.heap.size (.slice ao0 acc.len cap0) acc.len vals (World.ownsRow.alloc HOW2.out _) HML.out HBY.out (by have := HSZ.out; simp; omega) ⟨w2.heap.size, 0, none⟩ _ rfl HCN.out HH1.out (by simp [Act.eval]) (by simp [Act.eval]) ?_
     intro ao' cap' w3 hown3 hgrow3 hnew
     have HNW : Hid ((Value.slice ao' (acc.len + 1) cap').ownBlock = (Value.slice ao0 acc.len cap0).ownBlock \/ (Value.slice ao' (acc.len + 1) cap').ownBlock = some (w2.heap.size + 1)) := zz (by simpa using hnew)
     clear hnew
     have hk3 : Keeps (fun b => (Value.slice ao0 acc.len cap0).ownBlock = some b) w2 w3 := ((Keeps.refl (fun b => (Value.slice ao0 acc.len cap0).ownBlock = some b) w2).alloc _).trans' (Keeps.of_grownBy hgrow3 (fun k _ e => e)) (fun _ _ e => e)
     have hnb : ¬ (Value.slice ao0 acc.len cap0).ownBlock = some sb := fun e => by have := (a8 HOWN.out sb e).1; have := HLO.out; have := HSV.out; omega
     have n1' : ¬ (Value.slice ao0 acc.len cap0).ownBlock = some rv := fun e => by have := (a8 HOWN.out rv e).1; have := HLO.out; have := HSV.out; omega
     have n2' : ¬ (Value.slice ao0 acc.len cap0).ownBlock = some sv := fun e => by have := (a8 HOWN.out sv e).1; have := HLO.out; have := HSV.out; omega
     have y8 : w3.cell? ⟨rv, 0, none⟩ = some (.pointer (some ⟨rb, 0, none⟩)) := hk3.cell_of y1 n1'
     have y9 : w3.cell? ⟨sv, 0, none⟩ = some (.pointer (some ⟨sb, 0, none⟩)) := hk3.cell_of y2 n2'
     have y6 : w3.cell? ⟨sb, 7, none⟩ = some (.slice ao0 acc.len cap0) := hk3.cell_of y4 hnb
     have y7 : w3.frozen? ⟨sb, 7, none⟩ = false := by rw [hk3.frozen (p := ⟨sb, 7, none⟩) q4 hnb]; exact y5
     have HO3 := zz hown3
     have HG3 := zz hgrow3
     clear hown3 hgrow3 hk3 hnb n1' n2'
     refine hK.out _ _ ⟨y8, y9⟩ (fun hHeld => ?_)
     clear hK K
     try simp only [Act.put, sA, sB, sC]
     refine tk 9 21 (.pointer (some ⟨sb, 0, none⟩)) rfl (.inl ⟨by rfl, ?_⟩) hHeld ?_
     ·intro W9 hSW; (try dsimp only at hSW); go_simp
     try simp only [Act.put, sA, sB, sC]
     refine tk 10 22 (.pointer (some ⟨sb, 7, none⟩)) rfl (.inl ⟨by rfl, ?_⟩) hHeld ?_
     ·intro W9 hSW; (try dsimp only at hSW); go_simp
     try simp only [Act.put, sA, sB, sC]
     refine ra 11 none rfl fun K hK => ?_
     go_simp
     refine hK.out _ _ ⟨by rw [World.cell?_setCell_far _ _ _ _ (by assumption)]; assumption, by rw [World.cell?_setCell_far _ _ _ _ (by assumption)]; assumption⟩ (fun hHeld => ?_)
     clear hK K
     refine wpAnyH_done (by kernel_rfl) ?_ _
     have hj5 := HJ1.out.next (G := fun r => Ev (fun f => Tr.cases E f (dep + 1) .nil n1) r) HBLK.out HOWN.out HVAL.out HM1.out HK2.out HR2.out HC2.out HG3.out HO3.out HNW.out (fun r hr => HSEQ.out _ (Ev.then HEV.out hr))
     have HJ5 := zz hj5
     clear hj5
     go_wp2_with fail
     refine ⟨⟨m', _, HJ5.out⟩, ?_⟩
     have h1 := HJ5.out.rd
     have h2 := HJ.out.rd
     rw [h1.pos, h2.pos]
     have := h1.hn
     have := HM1.out
     omega
    ·go_simp
     go_at_call 309
     refine HCC.out.mono ?_
     rintro e w2 ⟨r, hev, hsay⟩
     rcases r with _ | ⟨k, a⟩ | ⟨s, m'⟩
     ·exact hsay.elim
     ·have hsay' : Threw _ w2 rb k a e := hsay
      obtain ⟨b, rfl⟩ := aB hsay'
      exact ⟨rfl, .bad k a, HSEQ.out _ (Ev.bad hev), hsay'.with HLT.out HKD.out (fun b e => by have := HLO.out; omega)⟩
     obtain ⟨v2, rfl, ⟨vs, rfl, hc2⟩, hr2, hk2⟩ := hsay
     cases s with
     | mk code at_ name dst val body =>
     have hc2' := hc2
     obtain ⟨tv2, vv2, nv2, e2, hx1, hx2, hx3, _⟩ := hc2'
     obtain ⟨o1, rfl⟩ := aL hx1
     obtain ⟨o2, rfl⟩ := aL hx2
     obtain ⟨a3, l3, k3, rfl⟩ := hx3.form
     have hkw2 : Keeps (fun b => b = rb) w1 w2 := ((Keeps.refl (fun b => b = rb) w1).drew.drew).trans hk2
     have hm1 := pZ hev
     have hb2 := HBLK.out.keeps hkw2 (fun e => by have := HLO.out; have : sb = rb := e; omega)
     have y4 := hb2.at_ 7 _ rfl
     have y5 := hb2.free 7
     have y1 : w2.cell? ⟨rv, 0, none⟩ = some (.pointer (some ⟨rb, 0, none⟩)) := hkw2.cell_of cr1 (fun e => by have := HLO.out; have : rv = rb := e; omega)
     have y2 : w2.cell? ⟨sv, 0, none⟩ = some (.pointer (some ⟨sb, 0, none⟩)) := hkw2.cell_of cs1 (fun e => by have := HLO.out; have : sv = rb := e; omega)
     have q1 : rv < w2.heap.size := block_lt_of_cell y1
     have q2 : sv < w2.heap.size := block_lt_of_cell y2
     have q4 : sb < w2.heap.size := hb2.lt
     have hown2 : w2.ownsRow W.heap.size 134 6 (.slice ao0 acc.len cap0) acc.len vals := hkw2.row HOWN.out (fun b e e2 => by have := (a8 HOWN.out b e).1; have := HLT.out; have : b = rb := e2; omega)
     have hsz2 : W.heap.size <= w2.heap.size := Nat.le_trans HJ1.out.kp.size hkw2.size
     have HH1 : Hid (∀ x ∈ vs, x.oneCell' = true) := zz (fun x hx => by rw [e2] at hx; simp at hx; rcases hx with rfl | rfl | rfl | rfl | rfl | rfl <;> rfl)
     have HCN := zz (eR w2 vs 134)
     have HOW2 := zz hown2
     have HC2 := zz hc2
     have HR2 := zz hr2
     have HK2 := zz hkw2
     have HEV := zz hev
     have HM1 := zz hm1
     have HSZ := zz hsz2
     clear hx1 hx2 hx3 hc2 hr2 hk2 hkw2 hev hown2 hm1 hsz2 hb2
     subst e2
     refine hK.out _ _ ⟨y1, y2⟩ (fun hHeld => ?_)
     clear hK K
     refine wpAnyH_ready (rs := [4, 7]) (by kernel_rfl) (by simp) ?_
     refine AllReadyH.cons (o := { dst := some 16, op := _, type := _, pos := _, after := _, guard := _ }) rfl (fun K hK => ?_) (AllReadyH.cons (o := { dst := some 19, op := _, type := _, pos := _, after := _, guard := _ }) rfl (fun K hK => ?_) AllReadyH.nil)
     ·go_simp
      refine hK.out _ _ hHeld (fun hHeld => ?_)
      clear hK K
      refine ra 7 (some 19) rfl fun K hK => ?_
      go_simp
      refine hK.out _ _ ⟨by rw [World.cell?_alloc_lt _ _ _ (by assumption)]; assumption, by rw [World.cell?_alloc_lt _ _ _ (by assumption)]; assumption⟩ (fun hHeld => ?_)
      clear hK K
      refine ra 8 (some 20) rfl fun K hK => ?_
      refine cE rfl (.tmp 16) (.tmp 19) 69 134 rfl i0 (.agg #[.int .i64 0, .int .i64 0, .string ByteArray.empty, .pointer none, .pointer none, .slice none 0 0]) 6 72 Tryz.underlying69 hi0 hz0 hz1 hz2 rfl (by decide) W.heap.size (.slice ao0 acc.len cap0) acc.len vals (World.ownsRow.alloc HOW2.out _) HML.out HBY.out (by have := HSZ.out; simp; omega) ⟨w2.heap.size, 0, none⟩ _ rfl HCN.out HH1.out (by simp [Act.eval]) (by simp [Act.eval]) ?_
      intro ao' cap' w3 hown3 hgrow3 hnew
      have HNW : Hid ((Value.slice ao' (acc.len + 1) cap').ownBlock = (Value.slice ao0 acc.len cap0).ownBlock \/ (Value.slice ao' (acc.len + 1) cap').ownBlock = some (w2.heap.size + 1)) := zz (by simpa using hnew)
      clear hnew
      have hk3 : Keeps (fun b => (Value.slice ao0 acc.len cap0).ownBlock = some b) w2 w3 := ((Keeps.refl (fun b => (Value.slice ao0 acc.len cap0).ownBlock = some b) w2).alloc _).trans' (Keeps.of_grownBy hgrow3 (fun k _ e => e)) (fun _ _ e => e)
      have hnb : ¬ (Value.slice ao0 acc.len cap0).ownBlock = some sb := fun e => by have := (a8 HOWN.out sb e).1; have := HLO.out; have := HSV.out; omega
      have n1' : ¬ (Value.slice ao0 acc.len cap0).ownBlock = some rv := fun e => by have := (a8 HOWN.out rv e).1; have := HLO.out; have := HSV.out; omega
      have n2' : ¬ (Value.slice ao0 acc.len cap0).ownBlock = some sv := fun e => by have := (a8 HOWN.out sv e).1; have := HLO.out; have := HSV.out; omega
      have y8 : w3.cell? ⟨rv, 0, none⟩ = some (.pointer (some ⟨rb, 0, none⟩)) := hk3.cell_of y1 n1'
      have y9 : w3.cell? ⟨sv, 0, none⟩ = some (.pointer (some ⟨sb, 0, none⟩)) := hk3.cell_of y2 n2'
      have y6 : w3.cell? ⟨sb, 7, none⟩ = some (.slice ao0 acc.len cap0) := hk3.cell_of y4 hnb
      have y7 : w3.frozen? ⟨sb, 7, none⟩ = false := by rw [hk3.frozen (p := ⟨sb, 7, none⟩) q4 hnb]; exact y5
      have HO3 := zz hown3
      have HG3 := zz hgrow3
      clear hown3 hgrow3 hk3 hnb n1' n2'
      refine hK.out _ _ ⟨y8, y9⟩ (fun hHeld => ?_)
      clear hK K
      try simp only [Act.put, sA, sB, sC]
      refine tk 9 21 (.pointer (some ⟨sb, 0, none⟩)) rfl (.inl ⟨by rfl, ?_⟩) hHeld ?_
      ·intro W9 hSW; (try dsimp only at hSW); go_simp
      try simp only [Act.put, sA, sB, sC]
      refine tk 10 22 (.pointer (some ⟨sb, 7, none⟩)) rfl (.inl ⟨by rfl, ?_⟩) hHeld ?_
      ·intro W9 hSW; (try dsimp only at hSW); go_simp
      try simp only [Act.put, sA, sB, sC]
      refine ra 11 none rfl fun K hK => ?_
      go_simp
      refine hK.out _ _ ⟨by rw [World.cell?_setCell_far _ _ _ _ (by assumption)]; assumption, by rw [World.cell?_setCell_far _ _ _ _ (by assumption)]; assumption⟩ (fun hHeld => ?_)
      clear hK K
      refine wpAnyH_done (by kernel_rfl) ?_ _
      have hj5 := HJ1.out.next (G := fun r => Ev (fun f => Tr.cases E f (dep + 1) .nil n1) r) HBLK.out HOWN.out HVAL.out HM1.out HK2.out HR2.out HC2.out HG3.out HO3.out HNW.out (fun r hr => HSEQ.out _ (Ev.then HEV.out hr))
      have HJ5 := zz hj5
      clear hj5
      go_wp2_with fail
      refine ⟨⟨m', _, HJ5.out⟩, ?_⟩
      have h1 := HJ5.out.rd
      have h2 := HJ.out.rd
      rw [h1.pos, h2.pos]
      have := h1.hn
      have := HM1.out
      omega
     ·go_simp
      refine hK.out _ _ ⟨by rw [World.cell?_alloc_lt _ _ _ (by assumption)]; assumption, by rw [World.cell?_alloc_lt _ _ _ (by assumption)]; assumption⟩ (fun hHeld => ?_)
      clear hK K
      refine ra 4 (some 16) rfl fun K hK => ?_
      go_simp
      refine hK.out _ _ hHeld (fun hHeld => ?_)
      clear hK K
      refine ra 8 (some 20) rfl fun K hK => ?_
      refine cE rfl (.tmp 16) (.tmp 19) 69 134 rfl i0 (.agg #[.int .i64 0, .int .i64 0, .string ByteArray.empty, .pointer none, .pointer none, .slice none 0 0]) 6 72 Tryz.underlying69 hi0 hz0 hz1 hz2 rfl (by decide) W.heap.size (.slice ao0 acc.len cap0) acc.len vals (World.ownsRow.alloc HOW2.out _) HML.out HBY.out (by have := HSZ.out; simp; omega) ⟨w2.heap.size, 0, none⟩ _ rfl HCN.out HH1.out (by simp [Act.eval]) (by simp [Act.eval]) ?_
      intro ao' cap' w3 hown3 hgrow3 hnew
      have HNW : Hid ((Value.slice ao' (acc.len + 1) cap').ownBlock = (Value.slice ao0 acc.len cap0).ownBlock \/ (Value.slice ao' (acc.len + 1) cap').ownBlock = some (w2.heap.size + 1)) := zz (by simpa using hnew)
      clear hnew
      have hk3 : Keeps (fun b => (Value.slice ao0 acc.len cap0).ownBlock = some b) w2 w3 := ((Keeps.refl (fun b => (Value.slice ao0 acc.len cap0).ownBlock = some b) w2).alloc _).trans' (Keeps.of_grownBy hgrow3 (fun k _ e => e)) (fun _ _ e => e)
      have hnb : ¬ (Value.slice ao0 acc.len cap0).ownBlock = some sb := fun e => by have := (a8 HOWN.out sb e).1; have := HLO.out; have := HSV.out; omega
      have n1' : ¬ (Value.slice ao0 acc.len cap0).ownBlock = some rv := fun e => by have := (a8 HOWN.out rv e).1; have := HLO.out; have := HSV.out; omega
      have n2' : ¬ (Value.slice ao0 acc.len cap0).ownBlock = some sv := fun e => by have := (a8 HOWN.out sv e).1; have := HLO.out; have := HSV.out; omega
      have y8 : w3.cell? ⟨rv, 0, none⟩ = some (.pointer (some ⟨rb, 0, none⟩)) := hk3.cell_of y1 n1'
      have y9 : w3.cell? ⟨sv, 0, none⟩ = some (.pointer (some ⟨sb, 0, none⟩)) := hk3.cell_of y2 n2'
      have y6 : w3.cell? ⟨sb, 7, none⟩ = some (.slice ao0 acc.len cap0) := hk3.cell_of y4 hnb
      have y7 : w3.frozen? ⟨sb, 7, none⟩ = false := by rw [hk3.frozen (p := ⟨sb, 7, none⟩) q4 hnb]; exact y5
      have HO3 := zz hown3
      have HG3 := zz hgrow3
      clear hown3 hgrow3 hk3 hnb n1' n2'
      refine hK.out _ _ ⟨y8, y9⟩ (fun hHeld => ?_)
      clear hK K
      try simp only [Act.put, sA, sB, sC]
      refine tk 9 21 (.pointer (some ⟨sb, 0, none⟩)) rfl (.inl ⟨by rfl, ?_⟩) hHeld ?_
      ·intro W9 hSW; (try dsimp only at hSW); go_simp
      try simp only [Act.put, sA, sB, sC]
      refine tk 10 22 (.pointer (some ⟨sb, 7, none⟩)) rfl (.inl ⟨by rfl, ?_⟩) hHeld ?_
      ·intro W9 hSW; (try dsimp only at hSW); go_simp
      try simp only [Act.put, sA, sB, sC]
      refine ra 11 none rfl fun K hK => ?_
      go_simp
      refine hK.out _ _ ⟨by rw [World.cell?_setCell_far _ _ _ _ (by assumption)]; assumption, by rw [World.cell?_setCell_far _ _ _ _ (by assumption)]; assumption⟩ (fun hHeld => ?_)
      clear hK K
      refine wpAnyH_done (by kernel_rfl) ?_ _
      have hj5 := HJ1.out.next (G := fun r => Ev (fun f => Tr.cases E f (dep + 1) .nil n1) r) HBLK.out HOWN.out HVAL.out HM1.out HK2.out HR2.out HC2.out HG3.out HO3.out HNW.out (fun r hr => HSEQ.out _ (Ev.then HEV.out hr))
      have HJ5 := zz hj5
      clear hj5
      go_wp2_with fail
      refine ⟨⟨m', _, HJ5.out⟩, ?_⟩
      have h1 := HJ5.out.rd
      have h2 := HJ.out.rd
      rw [h1.pos, h2.pos]
      have := h1.hn
      have := HM1.out
      omega
theorem mQ {α β γ : Type} (r : Res α) (f : α -> Nat -> Res β) (g : β -> Nat -> Res γ) : (r.bind f).bind g = r.bind fun x n => (f x n).bind g := by
 cases r <;> rfl
def I5 (E : Env) (f dep n : Nat) : Res St := (cR E dep (n + 1)).bind fun _ m => (Tr.cases E f (dep + 1) .nil m).bind fun l m2 => (take E tRb m2).bind fun _ m3 => .ok (.mk 14 (pk E n).at_ [] .nil .nil .nil .nil l) m3
theorem yV {dep sb : Nat} (hC : dep < 12 -> wH rb tv E (dep + 1)) (w : World) (h : RdAt w rb tv E n dep) (hE : TEnv rb E w) (hB : Blk w sb (st0 (pk E n).at_)) (hs : rb < sb) (ht : (pk E n).text = dI) :
  Calls Tryz.prog 295 #[.pointer (some ⟨rb, 0, none⟩), .pointer (some ⟨sb, 0, none⟩)] w fun e w' => ∃ r, Ev (fun f => I5 E f dep n) r /\ mG w w' rb tv E dep sb r e := by
 have hb : Below w.heap.size w ((w.alloc (.cells #[.pointer (some ⟨rb, 0, none⟩)] 165)).alloc (.cells #[.pointer (some ⟨sb, 0, none⟩)] 182)) := ((Keeps.refl (fun _ => False) w).alloc _).alloc _ |>.below (Nat.le_refl _) (fun _ _ e => e.elim)
 have cr : ((w.alloc (.cells #[.pointer (some ⟨rb, 0, none⟩)] 165)).alloc (.cells #[.pointer (some ⟨sb, 0, none⟩)] 182)).cell? ⟨w.heap.size, 0, none⟩ = some (.pointer (some ⟨rb, 0, none⟩)) := aZ (bK _ _ _ 0 _ rfl rfl)
 have cs : ((w.alloc (.cells #[.pointer (some ⟨rb, 0, none⟩)] 165)).alloc (.cells #[.pointer (some ⟨sb, 0, none⟩)] 182)).cell? ⟨w.heap.size + 1, 0, none⟩ = some (.pointer (some ⟨sb, 0, none⟩)) := bK _ _ _ 0 _ rfl (by simp)
 have htk := bM ⟨#[115, 101, 108, 101, 99, 116]⟩ (by decide) _ (h.fresh hb)
 have e1 : (⟨#[115, 101, 108, 101, 99, 116]⟩ : ByteArray).data.toList = dI := rfl
 have hv : take E dI n = .ok (pk E n) (n + 1) := by unfold take; rw [if_pos ht]
 rw [e1, hv] at htk
 have HT := zz htk
 have HE := zz hE
 have HB := zz hB
 have HS := zz hs
 have HLT := zz h.lt
 have HC := zz hC
 have HB0 := zz hb
 have HCS := zz cs
 have HCR := zz cr
 have HSZ : Hid (w.heap.size + 1 < ((w.alloc (.cells #[.pointer (some ⟨rb, 0, none⟩)] 165)).alloc (.cells #[.pointer (some ⟨sb, 0, none⟩)] 182)).heap.size) := zz (by simp)
 clear h hE hB hs ht htk hv e1 hC hb cs cr
 go_enter Tryz.func295, Tryz.ntmps295
 go_wp2_with fail
 refine HT.out.mono ?_
 rintro e w1 ⟨v, rfl, _, hr1, hk1⟩
 have hslt := HB.out.lt
 have hlt0 := HLT.out
 have hss := HS.out
 have cs1 : w1.cell? ⟨w.heap.size + 1, 0, none⟩ = some (.pointer (some ⟨sb, 0, none⟩)) := hk1.cell_of HCS.out (fun e => by have : w.heap.size + 1 = rb := e; omega)
 have cr1 : w1.cell? ⟨w.heap.size, 0, none⟩ = some (.pointer (some ⟨rb, 0, none⟩)) := hk1.cell_of HCR.out (fun e => by have : w.heap.size = rb := e; omega)
 have hb1 := (HB.out.fresh HB0.out).keeps hk1 (fun e => by have : sb = rb := e; omega)
 have c0 := hb1.at_ 0 _ rfl
 have z0 := hb1.free 0
 have hks : Keeps (fun b => b = sb) w1 (w1.setCell ⟨sb, 0, none⟩ (.int .i64 14)) := mB
 have hb2 : Blk (w1.setCell ⟨sb, 0, none⟩ (.int .i64 14)) sb (rR (pk E n).at_ (.slice none 0 0)) := hb1.set 0 (.int .i64 14) (by simp [st0])
 have cs2 : (w1.setCell ⟨sb, 0, none⟩ (.int .i64 14)).cell? ⟨w.heap.size + 1, 0, none⟩ = some (.pointer (some ⟨sb, 0, none⟩)) := hks.cell_of cs1 (fun e => by have : w.heap.size + 1 = sb := e; omega)
 have cr2 : (w1.setCell ⟨sb, 0, none⟩ (.int .i64 14)).cell? ⟨w.heap.size, 0, none⟩ = some (.pointer (some ⟨rb, 0, none⟩)) := hks.cell_of cr1 (fun e => by have : w.heap.size = sb := e; omega)
 have hk01 : Keeps (fun b => b = rb \/ b = sb) w w1 := (Keeps.of_new HB0.out).trans (hk1.mono (fun _ _ e => Or.inl e))
 have hk02 : Keeps (fun b => b = rb \/ b = sb) w (w1.setCell ⟨sb, 0, none⟩ (.int .i64 14)) := hk01.trans (hks.mono (fun _ _ e => Or.inr e))
 have hE2 := HE.out.keeps hk02 (fun b e => by omega)
 have HW := zz (rP (n := n + 1) _ (hr1.two hks hss) (fun hd => qI (HC.out hd) hE2 cr2 cs2 hb2 ⟨hss, hslt, Nat.lt_succ_self _⟩) (Or.inl rfl) (fun b e => by omega))
 have HK2 := zz hk02
 clear hks hb1 hb2 hk01 hk02 hE2 hr1 hk1 hslt hlt0 hss
 go_wp2_with fail
 refine HW.out.mono ?_
 rintro e w3 ⟨r, hR, hsay⟩
 have HEV : Hid (Ev (fun f => I5 E f dep n) (r.bind fun l m => .ok (.mk 14 (pk E n).at_ [] .nil .nil .nil .nil l) m)) := zz (by
  have h := Ev.map (fun l m => (.ok (.mk 14 (pk E n).at_ [] .nil .nil .nil .nil l) m : Res St)) (fun _ _ e => by cases e) (sL (g := fun n1 f => Tr.cases E f (dep + 1) .nil n1) hR)
  simp only [mQ] at h
  exact h)
 cases r with
 | out => exact hsay.elim
 | bad k a =>
  have hsay' : Threw _ w3 rb k a e := hsay
  obtain ⟨b, rfl⟩ := aB hsay'
  exact ⟨rfl, _, HEV.out, hsay'.with HLT.out HK2.out (fun b e => by have := HS.out; omega)⟩
 | ok l m =>
  obtain ⟨rfl, ⟨W, W1, hkW, ⟨v, hbv, hcv⟩, hkW1⟩, hr3, hk3⟩ := hsay
  have HSAY := zz (show ∃ W W1, Keeps (fun b => b = rb) _ W /\ (∃ v, Blk W1 sb (rR (pk E n).at_ v) /\ CasF W1 (fun b => W.heap.size <= b) l v) /\ Keeps (fun b => b = rb) W1 w3 from ⟨W, W1, hkW, ⟨v, hbv, hcv⟩, hkW1⟩)
  have HR3 := zz hr3
  have HK3 := zz hk3
  clear hR hkW hbv hcv hkW1 hr3 hk3 c0 z0 cs1 cr1 cs2 cr2
  go_wp2_with fail
  go_end0
  obtain ⟨W, W1, hkW, ⟨v, hbv, hcv⟩, hkW1⟩ := HSAY.out
  have h1 := HK2.out.size
  have h2 := hkW.size
  have h3 := HS.out
  have h4 := HLT.out
  have hc3 : CasF w3 (fun b => w.heap.size <= b) l v := CasF.mono (fun b e => by have : W.heap.size <= b := e; omega) (CasF.keeps hcv hkW1 (fun b e e2 => by have : W.heap.size <= b := e; have : b = rb := e2; omega))
  refine ⟨_, HEV.out, rfl, ⟨_, hbv.keeps hkW1 (fun e => by have : sb = rb := e; omega), ?_⟩, HR3.out, HK2.out.trans HK3.out⟩
  exact ⟨_, _, _, _, _, rfl, rfl, rfl, Or.inl ⟨rfl, rfl⟩, fun g n cap e => (by cases e), Or.inl ⟨rfl, rfl⟩, fun g n cap e => (by cases e), hc3.1, hc3.2⟩
theorem eK {dep sb m : Nat} {vs : List Value} {s : St} {wt w2 : World} (hC : StC wt (fun b => sb < b) vs s) (hR : RdAt wt rb tv E m dep) (hK : Keeps (fun b => b = rb) w wt) (hks : Keeps (fun b => b = sb \/ b = w.heap.size) wt w2) (hs : w.heap.size < sb) (hlt : rb < w.heap.size) :
  StC w2 (fun b => w.heap.size <= b) vs s /\ RdAt w2 rb tv E m dep /\ Keeps (fun b => b = rb) w w2 :=
 ⟨StC.mono (fun b _ e => by have h : sb < b := e; omega) (hC.keeps hks (fun b e e2 => by have h : sb < b := e; omega)), hR.keeps hks (fun b e => by omega), hK.trans' hks (fun i hi e => by omega)⟩
theorem qJ {dep : Nat} (w : World) (h : RdAt w rb tv E n dep) (hE : TEnv rb E w) (ht : (pk E n).text = iL) : Calls Tryz.prog 259 #[.pointer (some ⟨rb, 0, none⟩)] w fun e w' => ∃ r, Ev (fun f => Tr.stmt E f dep n) r /\ bL pG w w' rb tv E dep r e := by
 have hb0 : Below w.heap.size w (w.alloc (.cells #[.int .i64 0, .int .i64 0, .string ⟨#[]⟩, .pointer none, .pointer none, .slice none 0 0, .slice none 0 0, .slice none 0 0] 71)) := ((Keeps.refl (fun _ => False) w).alloc _).below (Nat.le_refl _) (fun _ _ e => e.elim)
 have hrv0 : Blk (w.alloc (.cells #[.int .i64 0, .int .i64 0, .string ⟨#[]⟩, .pointer none, .pointer none, .slice none 0 0, .slice none 0 0, .slice none 0 0] 71)) w.heap.size (st0 0) := Blk.new' w (st0 0) _ rfl
 have hp0 := aN _ (h.fresh hb0)
 have HPP : Hid (∀ W, Below w.heap.size w W -> Calls Tryz.prog 153 #[.pointer (some ⟨rb, 0, none⟩)] W fun e w' => e = .returned (aR (pk E n)) /\ Below W.heap.size W w') := zz fun W hb => aN W (h.fresh hb)
 have HN := zz (d8 ht (by decide))
 have HEVt : Hid (Ev (fun f => Tr.stmt E f dep n) (.ok (stz 9 (pk E n).at_ [] .nil .nil) (n + 1))) := zz (Ev.now (fun e => by cases e) fun f => by rw [dA, ht]; rfl)
 have H0 := zz h
 have HE := zz hE
 have HLT := zz h.lt
 have HB0 := zz hb0
 have HRV0 := zz hrv0
 unfold aR at hp0 HPP
 have hTT : (pk E n).text = iL := ht
 obtain ⟨T, hT⟩ : ∃ T, T = mkT iL := ⟨_, rfl⟩
 have hT' : T = mkT (pk E n).text := by rw [hTT]; exact hT
 have b0 : (T.toList == [99, 108, 111, 115, 101]) = false := by rw [hT, Lib.toList_data]; rfl
 have b1 : (T.toList == [112, 114, 105, 110, 116]) = false := by rw [hT, Lib.toList_data]; rfl
 have b2 : (T.toList == [115, 108, 101, 101, 112]) = false := by rw [hT, Lib.toList_data]; rfl
 have b3 : (T.toList == [103, 111]) = false := by rw [hT, Lib.toList_data]; rfl
 have b4 : (T.toList == [114, 101, 116, 117, 114, 110]) = false := by rw [hT, Lib.toList_data]; rfl
 have b5 : (T.toList == [98, 114, 101, 97, 107]) = true := by rw [hT, Lib.toList_data]; rfl
 rw [<- hT'] at hp0 HPP
 have HP0 := zz hp0
 clear h hE hb0 hrv0 hp0 hT' ht hTT hT
 have hf := bW
 have hf1 := aY
 go_enter Tryz.func259, Tryz.ntmps259
 go_wp2_with fail
 refine HP0.out.mono ?_
 rintro e w1 ⟨rfl, hb1⟩
 have hb01 : Below w.heap.size w w1 := HB0.out.trans (hb1.mono HB0.out.size)
 have hrv1 := HRV0.out.fresh hb1
 obtain ⟨sb, hsb⟩ : ∃ sb, sb = w1.heap.size := ⟨_, rfl⟩
 have hsbn : w.heap.size < sb := by rw [hsb]; exact hrv1.lt
 have HSB := zz hsbn
 have hB1 : Blk (w1.alloc (.cells #[.int .i64 0, .int .i64 ((pk E n).at_ : Nat), .string ⟨#[]⟩, .pointer none, .pointer none, .slice none 0 0, .slice none 0 0, .slice none 0 0] 71)) sb (st0 (pk E n).at_) := Blk.new' w1 (st0 (pk E n).at_) _ hsb
 have hb2 : Below w.heap.size w (w1.alloc (.cells #[.int .i64 0, .int .i64 ((pk E n).at_ : Nat), .string ⟨#[]⟩, .pointer none, .pointer none, .slice none 0 0, .slice none 0 0, .slice none 0 0] 71)) := hb01.alloc hb01.size _
 have hrv2 : Blk (w1.alloc (.cells #[.int .i64 0, .int .i64 ((pk E n).at_ : Nat), .string ⟨#[]⟩, .pointer none, .pointer none, .slice none 0 0, .slice none 0 0, .slice none 0 0] 71)) w.heap.size (st0 0) := hrv1.keeps (S := fun _ => False) ((Keeps.refl _ w1).alloc _) id
 have HP1 := zz (HPP.out _ hb2)
 have HB1 := zz hB1
 have HB2 := zz hb2
 have HRV2 := zz hrv2
 clear hB1 hb2 hrv2 hrv1 hb01 hb1 hsbn HPP HP0
 go_wp2_with fail
 rw [<- hsb]
 clear hsb
 refine HP1.out.mono ?_
 rintro e w2 ⟨rfl, hb3⟩
 have HBs := zz (HB1.out.fresh hb3)
 have HRVs := zz (HRV2.out.fresh hb3)
 have HBW : Hid (Below w.heap.size w w2) := zz (HB2.out.trans (hb3.mono HB2.out.size))
 clear hb3 HB1 HRV2 HB2 HP1
 have hn := HN.out
 go_wp2_with fail
 refine (bF w2 (H0.out.fresh HBW.out) hn).mono ?_
 rintro e w3 ⟨rfl, hr3, hk3⟩
 clear hn
 have hne3 : ¬ sb = rb := by have := HSB.out; have := HLT.out; omega
 have hne4 : ¬ w.heap.size = rb := by have := HLT.out; omega
 have HBt0 := zz (HBs.out.keeps hk3 hne3)
 have HRVt0 := zz (HRVs.out.keeps hk3 hne4)
 have HR3 := zz hr3
 have HK3 : Hid (Keeps (fun b => b = rb) w w3) := zz ((Keeps.of_new HBW.out).trans hk3)
 have HN3 := zz hne3
 have HN4 := zz hne4
 have HE3 := zz (HE.out.own HK3.out)
 clear hr3 hk3 hne3 hne4
 unfold aR
 generalize mkT (pk E n).text = TT
 have HBt := HBt0
 have HRV := HRVt0
 have HRt := HR3
 have HKt := HK3
 have HSC : Hid (StC w3 (fun b => sb < b) (st1 9 (pk E n).at_ [] none none) (stz 9 (pk E n).at_ [] .nil .nil)) := zz (dB rfl rfl)
 have c0 := HBt.out.at_ 0 _ rfl
 have c1 := HBt.out.at_ 1 _ rfl
 have c2 := HBt.out.at_ 2 _ rfl
 have c3 := HBt.out.at_ 3 _ rfl
 have c4 := HBt.out.at_ 4 _ rfl
 have c5 := HBt.out.at_ 5 _ rfl
 have c6 := HBt.out.at_ 6 _ rfl
 have c7 := HBt.out.at_ 7 _ rfl
 have z0 := HBt.out.free 0
 have r0 := HRV.out.at_ 0 _ rfl
 have y0 := HRV.out.free 0
 have r1 := HRV.out.at_ 1 _ rfl
 have y1 := HRV.out.free 1
 have r2 := HRV.out.at_ 2 _ rfl
 have y2 := HRV.out.free 2
 have r3 := HRV.out.at_ 3 _ rfl
 have y3 := HRV.out.free 3
 have r4 := HRV.out.at_ 4 _ rfl
 have y4 := HRV.out.free 4
 have r5 := HRV.out.at_ 5 _ rfl
 have y5 := HRV.out.free 5
 have r6 := HRV.out.at_ 6 _ rfl
 have y6 := HRV.out.free 6
 have r7 := HRV.out.at_ 7 _ rfl
 have y7 := HRV.out.free 7
 have hne : w.heap.size ≠ sb := by have := HSB.out; omega
 have hne2 : sb ≠ w.heap.size := fun e => hne e.symm
 have HSB2 := zz hne
 go_wp2_with fail
 have hks : Keeps (fun b => b = sb \/ b = w.heap.size) w3 (((((((((w3.setCell ⟨sb, 0, none⟩ (.int .i64 9)).setCell ⟨w.heap.size, 0, none⟩ (.int .i64 9)).setCell ⟨w.heap.size, 1, none⟩ (.int .i64 ((pk E n).at_ : Nat))).setCell ⟨w.heap.size, 2, none⟩ (.string (mkT []))).setCell ⟨w.heap.size, 3, none⟩ (.pointer none)).setCell ⟨w.heap.size, 4, none⟩ (.pointer none)).setCell ⟨w.heap.size, 5, none⟩ (.slice none 0 0)).setCell ⟨w.heap.size, 6, none⟩ (.slice none 0 0)).setCell ⟨w.heap.size, 7, none⟩ (.slice none 0 0)) := (((((((((Keeps.refl (fun b => b = sb \/ b = w.heap.size) w3).setCell (S := fun b => b = sb \/ b = w.heap.size) (p := ⟨sb, 0, none⟩) (Or.inl (Or.inl rfl)) (.int .i64 9)).setCell (S := fun b => b = sb \/ b = w.heap.size) (p := ⟨w.heap.size, 0, none⟩) (Or.inl (Or.inr rfl)) (.int .i64 9)).setCell (S := fun b => b = sb \/ b = w.heap.size) (p := ⟨w.heap.size, 1, none⟩) (Or.inl (Or.inr rfl)) (.int .i64 ((pk E n).at_ : Nat))).setCell (S := fun b => b = sb \/ b = w.heap.size) (p := ⟨w.heap.size, 2, none⟩) (Or.inl (Or.inr rfl)) (.string (mkT []))).setCell (S := fun b => b = sb \/ b = w.heap.size) (p := ⟨w.heap.size, 3, none⟩) (Or.inl (Or.inr rfl)) (.pointer none)).setCell (S := fun b => b = sb \/ b = w.heap.size) (p := ⟨w.heap.size, 4, none⟩) (Or.inl (Or.inr rfl)) (.pointer none)).setCell (S := fun b => b = sb \/ b = w.heap.size) (p := ⟨w.heap.size, 5, none⟩) (Or.inl (Or.inr rfl)) (.slice none 0 0)).setCell (S := fun b => b = sb \/ b = w.heap.size) (p := ⟨w.heap.size, 6, none⟩) (Or.inl (Or.inr rfl)) (.slice none 0 0)).setCell (S := fun b => b = sb \/ b = w.heap.size) (p := ⟨w.heap.size, 7, none⟩) (Or.inl (Or.inr rfl)) (.slice none 0 0)
 have hfin := eK HSC.out HRt.out HKt.out hks HSB.out HLT.out
 refine bodyPost_ret (v := .agg #[.int .i64 9, .int .i64 ((pk E n).at_ : Nat), .string (mkT []), .pointer none, .pointer none, .slice none 0 0, .slice none 0 0, .slice none 0 0]) (by simp [results, Tryz.results259, go_sem, r0, r1, r2, r3, r4, r5, r6, r7]) rfl ⟨.ok (stz 9 (pk E n).at_ [] .nil .nil) _, HEVt.out, _, rfl, ⟨_, rfl, hfin.1⟩, hfin.2.1, hfin.2.2⟩
theorem nM {dep : Nat} (w : World) (h : RdAt w rb tv E n dep) (hE : TEnv rb E w) (ht : (pk E n).text = cP) : Calls Tryz.prog 259 #[.pointer (some ⟨rb, 0, none⟩)] w fun e w' => ∃ r, Ev (fun f => Tr.stmt E f dep n) r /\ bL pG w w' rb tv E dep r e := by
 have hb0 : Below w.heap.size w (w.alloc (.cells #[.int .i64 0, .int .i64 0, .string ⟨#[]⟩, .pointer none, .pointer none, .slice none 0 0, .slice none 0 0, .slice none 0 0] 71)) := ((Keeps.refl (fun _ => False) w).alloc _).below (Nat.le_refl _) (fun _ _ e => e.elim)
 have hrv0 : Blk (w.alloc (.cells #[.int .i64 0, .int .i64 0, .string ⟨#[]⟩, .pointer none, .pointer none, .slice none 0 0, .slice none 0 0, .slice none 0 0] 71)) w.heap.size (st0 0) := Blk.new' w (st0 0) _ rfl
 have hp0 := aN _ (h.fresh hb0)
 have HPP : Hid (∀ W, Below w.heap.size w W -> Calls Tryz.prog 153 #[.pointer (some ⟨rb, 0, none⟩)] W fun e w' => e = .returned (aR (pk E n)) /\ Below W.heap.size W w') := zz fun W hb => aN W (h.fresh hb)
 have HN := zz (d8 ht (by decide))
 have HEVt : Hid (Ev (fun f => Tr.stmt E f dep n) (.ok (stz 10 (pk E n).at_ [] .nil .nil) (n + 1))) := zz (Ev.now (fun e => by cases e) fun f => by rw [dA, ht]; rfl)
 have H0 := zz h
 have HE := zz hE
 have HLT := zz h.lt
 have HB0 := zz hb0
 have HRV0 := zz hrv0
 unfold aR at hp0 HPP
 have hTT : (pk E n).text = cP := ht
 obtain ⟨T, hT⟩ : ∃ T, T = mkT cP := ⟨_, rfl⟩
 have hT' : T = mkT (pk E n).text := by rw [hTT]; exact hT
 have b0 : (T.toList == [99, 108, 111, 115, 101]) = false := by rw [hT, Lib.toList_data]; rfl
 have b1 : (T.toList == [112, 114, 105, 110, 116]) = false := by rw [hT, Lib.toList_data]; rfl
 have b2 : (T.toList == [115, 108, 101, 101, 112]) = false := by rw [hT, Lib.toList_data]; rfl
 have b3 : (T.toList == [103, 111]) = false := by rw [hT, Lib.toList_data]; rfl
 have b4 : (T.toList == [114, 101, 116, 117, 114, 110]) = false := by rw [hT, Lib.toList_data]; rfl
 have b5 : (T.toList == [98, 114, 101, 97, 107]) = false := by rw [hT, Lib.toList_data]; rfl
 have b6 : (T.toList == [99, 111, 110, 116, 105, 110, 117, 101]) = true := by rw [hT, Lib.toList_data]; rfl
 rw [<- hT'] at hp0 HPP
 have HP0 := zz hp0
 clear h hE hb0 hrv0 hp0 hT' ht hTT hT
 have hf := bW
 have hf1 := aY
 go_enter Tryz.func259, Tryz.ntmps259
 go_wp2_with fail
 refine HP0.out.mono ?_
 rintro e w1 ⟨rfl, hb1⟩
 have hb01 : Below w.heap.size w w1 := HB0.out.trans (hb1.mono HB0.out.size)
 have hrv1 := HRV0.out.fresh hb1
 obtain ⟨sb, hsb⟩ : ∃ sb, sb = w1.heap.size := ⟨_, rfl⟩
 have hsbn : w.heap.size < sb := by rw [hsb]; exact hrv1.lt
 have HSB := zz hsbn
 have hB1 : Blk (w1.alloc (.cells #[.int .i64 0, .int .i64 ((pk E n).at_ : Nat), .string ⟨#[]⟩, .pointer none, .pointer none, .slice none 0 0, .slice none 0 0, .slice none 0 0] 71)) sb (st0 (pk E n).at_) := Blk.new' w1 (st0 (pk E n).at_) _ hsb
 have hb2 : Below w.heap.size w (w1.alloc (.cells #[.int .i64 0, .int .i64 ((pk E n).at_ : Nat), .string ⟨#[]⟩, .pointer none, .pointer none, .slice none 0 0, .slice none 0 0, .slice none 0 0] 71)) := hb01.alloc hb01.size _
 have hrv2 : Blk (w1.alloc (.cells #[.int .i64 0, .int .i64 ((pk E n).at_ : Nat), .string ⟨#[]⟩, .pointer none, .pointer none, .slice none 0 0, .slice none 0 0, .slice none 0 0] 71)) w.heap.size (st0 0) := hrv1.keeps (S := fun _ => False) ((Keeps.refl _ w1).alloc _) id
 have HP1 := zz (HPP.out _ hb2)
 have HB1 := zz hB1
 have HB2 := zz hb2
 have HRV2 := zz hrv2
 clear hB1 hb2 hrv2 hrv1 hb01 hb1 hsbn HPP HP0
 go_wp2_with fail
 rw [<- hsb]
 clear hsb
 refine HP1.out.mono ?_
 rintro e w2 ⟨rfl, hb3⟩
 have HBs := zz (HB1.out.fresh hb3)
 have HRVs := zz (HRV2.out.fresh hb3)
 have HBW : Hid (Below w.heap.size w w2) := zz (HB2.out.trans (hb3.mono HB2.out.size))
 clear hb3 HB1 HRV2 HB2 HP1
 have hn := HN.out
 go_wp2_with fail
 refine (bF w2 (H0.out.fresh HBW.out) hn).mono ?_
 rintro e w3 ⟨rfl, hr3, hk3⟩
 clear hn
 have hne3 : ¬ sb = rb := by have := HSB.out; have := HLT.out; omega
 have hne4 : ¬ w.heap.size = rb := by have := HLT.out; omega
 have HBt0 := zz (HBs.out.keeps hk3 hne3)
 have HRVt0 := zz (HRVs.out.keeps hk3 hne4)
 have HR3 := zz hr3
 have HK3 : Hid (Keeps (fun b => b = rb) w w3) := zz ((Keeps.of_new HBW.out).trans hk3)
 have HN3 := zz hne3
 have HN4 := zz hne4
 have HE3 := zz (HE.out.own HK3.out)
 clear hr3 hk3 hne3 hne4
 unfold aR
 generalize mkT (pk E n).text = TT
 have HBt := HBt0
 have HRV := HRVt0
 have HRt := HR3
 have HKt := HK3
 have HSC : Hid (StC w3 (fun b => sb < b) (st1 10 (pk E n).at_ [] none none) (stz 10 (pk E n).at_ [] .nil .nil)) := zz (dB rfl rfl)
 have c0 := HBt.out.at_ 0 _ rfl
 have c1 := HBt.out.at_ 1 _ rfl
 have c2 := HBt.out.at_ 2 _ rfl
 have c3 := HBt.out.at_ 3 _ rfl
 have c4 := HBt.out.at_ 4 _ rfl
 have c5 := HBt.out.at_ 5 _ rfl
 have c6 := HBt.out.at_ 6 _ rfl
 have c7 := HBt.out.at_ 7 _ rfl
 have z0 := HBt.out.free 0
 have r0 := HRV.out.at_ 0 _ rfl
 have y0 := HRV.out.free 0
 have r1 := HRV.out.at_ 1 _ rfl
 have y1 := HRV.out.free 1
 have r2 := HRV.out.at_ 2 _ rfl
 have y2 := HRV.out.free 2
 have r3 := HRV.out.at_ 3 _ rfl
 have y3 := HRV.out.free 3
 have r4 := HRV.out.at_ 4 _ rfl
 have y4 := HRV.out.free 4
 have r5 := HRV.out.at_ 5 _ rfl
 have y5 := HRV.out.free 5
 have r6 := HRV.out.at_ 6 _ rfl
 have y6 := HRV.out.free 6
 have r7 := HRV.out.at_ 7 _ rfl
 have y7 := HRV.out.free 7
 have hne : w.heap.size ≠ sb := by have := HSB.out; omega
 have hne2 : sb ≠ w.heap.size := fun e => hne e.symm
 have HSB2 := zz hne
 go_wp2_with fail
 have hks : Keeps (fun b => b = sb \/ b = w.heap.size) w3 (((((((((w3.setCell ⟨sb, 0, none⟩ (.int .i64 10)).setCell ⟨w.heap.size, 0, none⟩ (.int .i64 10)).setCell ⟨w.heap.size, 1, none⟩ (.int .i64 ((pk E n).at_ : Nat))).setCell ⟨w.heap.size, 2, none⟩ (.string (mkT []))).setCell ⟨w.heap.size, 3, none⟩ (.pointer none)).setCell ⟨w.heap.size, 4, none⟩ (.pointer none)).setCell ⟨w.heap.size, 5, none⟩ (.slice none 0 0)).setCell ⟨w.heap.size, 6, none⟩ (.slice none 0 0)).setCell ⟨w.heap.size, 7, none⟩ (.slice none 0 0)) := (((((((((Keeps.refl (fun b => b = sb \/ b = w.heap.size) w3).setCell (S := fun b => b = sb \/ b = w.heap.size) (p := ⟨sb, 0, none⟩) (Or.inl (Or.inl rfl)) (.int .i64 10)).setCell (S := fun b => b = sb \/ b = w.heap.size) (p := ⟨w.heap.size, 0, none⟩) (Or.inl (Or.inr rfl)) (.int .i64 10)).setCell (S := fun b => b = sb \/ b = w.heap.size) (p := ⟨w.heap.size, 1, none⟩) (Or.inl (Or.inr rfl)) (.int .i64 ((pk E n).at_ : Nat))).setCell (S := fun b => b = sb \/ b = w.heap.size) (p := ⟨w.heap.size, 2, none⟩) (Or.inl (Or.inr rfl)) (.string (mkT []))).setCell (S := fun b => b = sb \/ b = w.heap.size) (p := ⟨w.heap.size, 3, none⟩) (Or.inl (Or.inr rfl)) (.pointer none)).setCell (S := fun b => b = sb \/ b = w.heap.size) (p := ⟨w.heap.size, 4, none⟩) (Or.inl (Or.inr rfl)) (.pointer none)).setCell (S := fun b => b = sb \/ b = w.heap.size) (p := ⟨w.heap.size, 5, none⟩) (Or.inl (Or.inr rfl)) (.slice none 0 0)).setCell (S := fun b => b = sb \/ b = w.heap.size) (p := ⟨w.heap.size, 6, none⟩) (Or.inl (Or.inr rfl)) (.slice none 0 0)).setCell (S := fun b => b = sb \/ b = w.heap.size) (p := ⟨w.heap.size, 7, none⟩) (Or.inl (Or.inr rfl)) (.slice none 0 0)
 have hfin := eK HSC.out HRt.out HKt.out hks HSB.out HLT.out
 refine bodyPost_ret (v := .agg #[.int .i64 10, .int .i64 ((pk E n).at_ : Nat), .string (mkT []), .pointer none, .pointer none, .slice none 0 0, .slice none 0 0, .slice none 0 0]) (by simp [results, Tryz.results259, go_sem, r0, r1, r2, r3, r4, r5, r6, r7]) rfl ⟨.ok (stz 10 (pk E n).at_ [] .nil .nil) _, HEVt.out, _, rfl, ⟨_, rfl, hfin.1⟩, hfin.2.1, hfin.2.2⟩
theorem qK {dep : Nat} (w : World) (h : RdAt w rb tv E n dep) (hE : TEnv rb E w) (ht : (pk E n).text = iI) : Calls Tryz.prog 259 #[.pointer (some ⟨rb, 0, none⟩)] w fun e w' => ∃ r, Ev (fun f => Tr.stmt E f dep n) r /\ bL pG w w' rb tv E dep r e := by
 have hb0 : Below w.heap.size w (w.alloc (.cells #[.int .i64 0, .int .i64 0, .string ⟨#[]⟩, .pointer none, .pointer none, .slice none 0 0, .slice none 0 0, .slice none 0 0] 71)) := ((Keeps.refl (fun _ => False) w).alloc _).below (Nat.le_refl _) (fun _ _ e => e.elim)
 have hrv0 : Blk (w.alloc (.cells #[.int .i64 0, .int .i64 0, .string ⟨#[]⟩, .pointer none, .pointer none, .slice none 0 0, .slice none 0 0, .slice none 0 0] 71)) w.heap.size (st0 0) := Blk.new' w (st0 0) _ rfl
 have hp0 := aN _ (h.fresh hb0)
 have HPP : Hid (∀ W, Below w.heap.size w W -> Calls Tryz.prog 153 #[.pointer (some ⟨rb, 0, none⟩)] W fun e w' => e = .returned (aR (pk E n)) /\ Below W.heap.size W w') := zz fun W hb => aN W (h.fresh hb)
 have HN := zz (d8 ht (by decide))
 have HEV : Hid (∀ r, Ev (fun f => bracketed E f 0 (n + 1)) r -> Ev (fun f => Tr.stmt E f dep n) (r.bind fun x m => .ok (stz 4 (pk E n).at_ [] .nil x) m)) := zz fun r hr => Ev.step (h := fun f => (bracketed E f 0 (n + 1)).bind fun x m => .ok (stz 4 (pk E n).at_ [] .nil x) m) (fun f => by rw [dA, ht]; rfl) (Ev.map _ (fun _ _ e => by cases e) hr)
 have H0 := zz h
 have HE := zz hE
 have HLT := zz h.lt
 have HB0 := zz hb0
 have HRV0 := zz hrv0
 unfold aR at hp0 HPP
 have hTT : (pk E n).text = iI := ht
 obtain ⟨T, hT⟩ : ∃ T, T = mkT iI := ⟨_, rfl⟩
 have hT' : T = mkT (pk E n).text := by rw [hTT]; exact hT
 have b0 : (T.toList == [99, 108, 111, 115, 101]) = true := by rw [hT, Lib.toList_data]; rfl
 rw [<- hT'] at hp0 HPP
 have HP0 := zz hp0
 clear h hE hb0 hrv0 hp0 hT' ht hTT hT
 have hf := bW
 have hf1 := aY
 go_enter Tryz.func259, Tryz.ntmps259
 go_wp2_with fail
 refine HP0.out.mono ?_
 rintro e w1 ⟨rfl, hb1⟩
 have hb01 : Below w.heap.size w w1 := HB0.out.trans (hb1.mono HB0.out.size)
 have hrv1 := HRV0.out.fresh hb1
 obtain ⟨sb, hsb⟩ : ∃ sb, sb = w1.heap.size := ⟨_, rfl⟩
 have hsbn : w.heap.size < sb := by rw [hsb]; exact hrv1.lt
 have HSB := zz hsbn
 have hB1 : Blk (w1.alloc (.cells #[.int .i64 0, .int .i64 ((pk E n).at_ : Nat), .string ⟨#[]⟩, .pointer none, .pointer none, .slice none 0 0, .slice none 0 0, .slice none 0 0] 71)) sb (st0 (pk E n).at_) := Blk.new' w1 (st0 (pk E n).at_) _ hsb
 have hb2 : Below w.heap.size w (w1.alloc (.cells #[.int .i64 0, .int .i64 ((pk E n).at_ : Nat), .string ⟨#[]⟩, .pointer none, .pointer none, .slice none 0 0, .slice none 0 0, .slice none 0 0] 71)) := hb01.alloc hb01.size _
 have hrv2 : Blk (w1.alloc (.cells #[.int .i64 0, .int .i64 ((pk E n).at_ : Nat), .string ⟨#[]⟩, .pointer none, .pointer none, .slice none 0 0, .slice none 0 0, .slice none 0 0] 71)) w.heap.size (st0 0) := hrv1.keeps (S := fun _ => False) ((Keeps.refl _ w1).alloc _) id
 have HP1 := zz (HPP.out _ hb2)
 have HB1 := zz hB1
 have HB2 := zz hb2
 have HRV2 := zz hrv2
 clear hB1 hb2 hrv2 hrv1 hb01 hb1 hsbn HPP HP0
 go_wp2_with fail
 rw [<- hsb]
 clear hsb
 refine HP1.out.mono ?_
 rintro e w2 ⟨rfl, hb3⟩
 have HBs := zz (HB1.out.fresh hb3)
 have HRVs := zz (HRV2.out.fresh hb3)
 have HBW : Hid (Below w.heap.size w w2) := zz (HB2.out.trans (hb3.mono HB2.out.size))
 clear hb3 HB1 HRV2 HB2 HP1
 have hn := HN.out
 go_wp2_with fail
 refine (bF w2 (H0.out.fresh HBW.out) hn).mono ?_
 rintro e w3 ⟨rfl, hr3, hk3⟩
 clear hn
 have hne3 : ¬ sb = rb := by have := HSB.out; have := HLT.out; omega
 have hne4 : ¬ w.heap.size = rb := by have := HLT.out; omega
 have HBt0 := zz (HBs.out.keeps hk3 hne3)
 have HRVt0 := zz (HRVs.out.keeps hk3 hne4)
 have HR3 := zz hr3
 have HK3 : Hid (Keeps (fun b => b = rb) w w3) := zz ((Keeps.of_new HBW.out).trans hk3)
 have HN3 := zz hne3
 have HN4 := zz hne4
 have HE3 := zz (HE.out.own HK3.out)
 clear hr3 hk3 hne3 hne4
 unfold aR
 generalize mkT (pk E n).text = TT
 have HXP := zz (gZ (dd := 0) (k8 (by decide)) (by decide) w3 HR3.out HE3.out)
 go_wp2_with fail
 refine HXP.out.mono ?_
 rintro e w4 ⟨r, hev, hsay⟩
 have hev2 := zz (HEV.out r hev)
 cases r with
 | out => exact hsay.elim
 | bad k a =>
  have hsay' : Threw w3 w4 rb k a e := hsay
  obtain ⟨b, rfl⟩ := aB hsay'
  exact ⟨rfl, _, hev2.out, hsay'.own HLT.out HK3.out⟩
 | ok x m =>
  obtain ⟨v, rfl, hx, hr4, hk4⟩ := hsay
  obtain ⟨o, rfl⟩ := aL hx
  have HBt := zz (HBt0.out.keeps hk4 HN3.out)
  have HRV := zz (HRVt0.out.keeps hk4 HN4.out)
  have HRt := zz hr4
  have HKt := zz (HK3.out.trans hk4)
  have HEVt : Hid (Ev (fun f => Tr.stmt E f dep n) (.ok (stz 4 (pk E n).at_ [] .nil x) m)) := hev2
  have HSC : Hid (StC w4 (fun b => sb < b) (st1 4 (pk E n).at_ [] none o) (stz 4 (pk E n).at_ [] .nil x)) := zz (dB rfl (ExIn.mono (fun b _ e => by have h1 : w3.heap.size <= b := e; have := HBt0.out.lt; show sb < b; omega) _ _ hx))
  clear hx hr4 hk4 hev hev2
  have c0 := HBt.out.at_ 0 _ rfl
  have c1 := HBt.out.at_ 1 _ rfl
  have c2 := HBt.out.at_ 2 _ rfl
  have c3 := HBt.out.at_ 3 _ rfl
  have c4 := HBt.out.at_ 4 _ rfl
  have c5 := HBt.out.at_ 5 _ rfl
  have c6 := HBt.out.at_ 6 _ rfl
  have c7 := HBt.out.at_ 7 _ rfl
  have z0 := HBt.out.free 0
  have z4 := HBt.out.free 4
  have r0 := HRV.out.at_ 0 _ rfl
  have y0 := HRV.out.free 0
  have r1 := HRV.out.at_ 1 _ rfl
  have y1 := HRV.out.free 1
  have r2 := HRV.out.at_ 2 _ rfl
  have y2 := HRV.out.free 2
  have r3 := HRV.out.at_ 3 _ rfl
  have y3 := HRV.out.free 3
  have r4 := HRV.out.at_ 4 _ rfl
  have y4 := HRV.out.free 4
  have r5 := HRV.out.at_ 5 _ rfl
  have y5 := HRV.out.free 5
  have r6 := HRV.out.at_ 6 _ rfl
  have y6 := HRV.out.free 6
  have r7 := HRV.out.at_ 7 _ rfl
  have y7 := HRV.out.free 7
  have hne : w.heap.size ≠ sb := by have := HSB.out; omega
  have hne2 : sb ≠ w.heap.size := fun e => hne e.symm
  have HSB2 := zz hne
  go_wp2_with fail
  have hks : Keeps (fun b => b = sb \/ b = w.heap.size) w4 ((((((((((w4.setCell ⟨sb, 0, none⟩ (.int .i64 4)).setCell ⟨sb, 4, none⟩ (.pointer o)).setCell ⟨w.heap.size, 0, none⟩ (.int .i64 4)).setCell ⟨w.heap.size, 1, none⟩ (.int .i64 ((pk E n).at_ : Nat))).setCell ⟨w.heap.size, 2, none⟩ (.string (mkT []))).setCell ⟨w.heap.size, 3, none⟩ (.pointer none)).setCell ⟨w.heap.size, 4, none⟩ (.pointer o)).setCell ⟨w.heap.size, 5, none⟩ (.slice none 0 0)).setCell ⟨w.heap.size, 6, none⟩ (.slice none 0 0)).setCell ⟨w.heap.size, 7, none⟩ (.slice none 0 0)) := ((((((((((Keeps.refl (fun b => b = sb \/ b = w.heap.size) w4).setCell (S := fun b => b = sb \/ b = w.heap.size) (p := ⟨sb, 0, none⟩) (Or.inl (Or.inl rfl)) (.int .i64 4)).setCell (S := fun b => b = sb \/ b = w.heap.size) (p := ⟨sb, 4, none⟩) (Or.inl (Or.inl rfl)) (.pointer o)).setCell (S := fun b => b = sb \/ b = w.heap.size) (p := ⟨w.heap.size, 0, none⟩) (Or.inl (Or.inr rfl)) (.int .i64 4)).setCell (S := fun b => b = sb \/ b = w.heap.size) (p := ⟨w.heap.size, 1, none⟩) (Or.inl (Or.inr rfl)) (.int .i64 ((pk E n).at_ : Nat))).setCell (S := fun b => b = sb \/ b = w.heap.size) (p := ⟨w.heap.size, 2, none⟩) (Or.inl (Or.inr rfl)) (.string (mkT []))).setCell (S := fun b => b = sb \/ b = w.heap.size) (p := ⟨w.heap.size, 3, none⟩) (Or.inl (Or.inr rfl)) (.pointer none)).setCell (S := fun b => b = sb \/ b = w.heap.size) (p := ⟨w.heap.size, 4, none⟩) (Or.inl (Or.inr rfl)) (.pointer o)).setCell (S := fun b => b = sb \/ b = w.heap.size) (p := ⟨w.heap.size, 5, none⟩) (Or.inl (Or.inr rfl)) (.slice none 0 0)).setCell (S := fun b => b = sb \/ b = w.heap.size) (p := ⟨w.heap.size, 6, none⟩) (Or.inl (Or.inr rfl)) (.slice none 0 0)).setCell (S := fun b => b = sb \/ b = w.heap.size) (p := ⟨w.heap.size, 7, none⟩) (Or.inl (Or.inr rfl)) (.slice none 0 0)
  have hfin := eK HSC.out HRt.out HKt.out hks HSB.out HLT.out
  refine bodyPost_ret (v := .agg #[.int .i64 4, .int .i64 ((pk E n).at_ : Nat), .string (mkT []), .pointer none, .pointer o, .slice none 0 0, .slice none 0 0, .slice none 0 0]) (by simp [results, Tryz.results259, go_sem, r0, r1, r2, r3, r4, r5, r6, r7]) rfl ⟨.ok (stz 4 (pk E n).at_ [] .nil x) _, HEVt.out, _, rfl, ⟨_, rfl, hfin.1⟩, hfin.2.1, hfin.2.2⟩
theorem qL {dep : Nat} (w : World) (h : RdAt w rb tv E n dep) (hE : TEnv rb E w) (ht : (pk E n).text = iJ) : Calls Tryz.prog 259 #[.pointer (some ⟨rb, 0, none⟩)] w fun e w' => ∃ r, Ev (fun f => Tr.stmt E f dep n) r /\ bL pG w w' rb tv E dep r e := by
 have hb0 : Below w.heap.size w (w.alloc (.cells #[.int .i64 0, .int .i64 0, .string ⟨#[]⟩, .pointer none, .pointer none, .slice none 0 0, .slice none 0 0, .slice none 0 0] 71)) := ((Keeps.refl (fun _ => False) w).alloc _).below (Nat.le_refl _) (fun _ _ e => e.elim)
 have hrv0 : Blk (w.alloc (.cells #[.int .i64 0, .int .i64 0, .string ⟨#[]⟩, .pointer none, .pointer none, .slice none 0 0, .slice none 0 0, .slice none 0 0] 71)) w.heap.size (st0 0) := Blk.new' w (st0 0) _ rfl
 have hp0 := aN _ (h.fresh hb0)
 have HPP : Hid (∀ W, Below w.heap.size w W -> Calls Tryz.prog 153 #[.pointer (some ⟨rb, 0, none⟩)] W fun e w' => e = .returned (aR (pk E n)) /\ Below W.heap.size W w') := zz fun W hb => aN W (h.fresh hb)
 have HN := zz (d8 ht (by decide))
 have HEV : Hid (∀ r, Ev (fun f => dJ E f 0 (n + 1)) r -> Ev (fun f => Tr.stmt E f dep n) (r.bind fun x m => .ok (stz 5 (pk E n).at_ [] .nil x) m)) := zz fun r hr => Ev.step (h := fun f => (dJ E f 0 (n + 1)).bind fun x m => .ok (stz 5 (pk E n).at_ [] .nil x) m) (fun f => by rw [dA, ht]; rfl) (Ev.map _ (fun _ _ e => by cases e) hr)
 have H0 := zz h
 have HE := zz hE
 have HLT := zz h.lt
 have HB0 := zz hb0
 have HRV0 := zz hrv0
 unfold aR at hp0 HPP
 have hTT : (pk E n).text = iJ := ht
 obtain ⟨T, hT⟩ : ∃ T, T = mkT iJ := ⟨_, rfl⟩
 have hT' : T = mkT (pk E n).text := by rw [hTT]; exact hT
 have b0 : (T.toList == [99, 108, 111, 115, 101]) = false := by rw [hT, Lib.toList_data]; rfl
 have b1 : (T.toList == [112, 114, 105, 110, 116]) = true := by rw [hT, Lib.toList_data]; rfl
 rw [<- hT'] at hp0 HPP
 have HP0 := zz hp0
 clear h hE hb0 hrv0 hp0 hT' ht hTT hT
 have hf := bW
 have hf1 := aY
 go_enter Tryz.func259, Tryz.ntmps259
 go_wp2_with fail
 refine HP0.out.mono ?_
 rintro e w1 ⟨rfl, hb1⟩
 have hb01 : Below w.heap.size w w1 := HB0.out.trans (hb1.mono HB0.out.size)
 have hrv1 := HRV0.out.fresh hb1
 obtain ⟨sb, hsb⟩ : ∃ sb, sb = w1.heap.size := ⟨_, rfl⟩
 have hsbn : w.heap.size < sb := by rw [hsb]; exact hrv1.lt
 have HSB := zz hsbn
 have hB1 : Blk (w1.alloc (.cells #[.int .i64 0, .int .i64 ((pk E n).at_ : Nat), .string ⟨#[]⟩, .pointer none, .pointer none, .slice none 0 0, .slice none 0 0, .slice none 0 0] 71)) sb (st0 (pk E n).at_) := Blk.new' w1 (st0 (pk E n).at_) _ hsb
 have hb2 : Below w.heap.size w (w1.alloc (.cells #[.int .i64 0, .int .i64 ((pk E n).at_ : Nat), .string ⟨#[]⟩, .pointer none, .pointer none, .slice none 0 0, .slice none 0 0, .slice none 0 0] 71)) := hb01.alloc hb01.size _
 have hrv2 : Blk (w1.alloc (.cells #[.int .i64 0, .int .i64 ((pk E n).at_ : Nat), .string ⟨#[]⟩, .pointer none, .pointer none, .slice none 0 0, .slice none 0 0, .slice none 0 0] 71)) w.heap.size (st0 0) := hrv1.keeps (S := fun _ => False) ((Keeps.refl _ w1).alloc _) id
 have HP1 := zz (HPP.out _ hb2)
 have HB1 := zz hB1
 have HB2 := zz hb2
 have HRV2 := zz hrv2
 clear hB1 hb2 hrv2 hrv1 hb01 hb1 hsbn HPP HP0
 go_wp2_with fail
 rw [<- hsb]
 clear hsb
 refine HP1.out.mono ?_
 rintro e w2 ⟨rfl, hb3⟩
 have HBs := zz (HB1.out.fresh hb3)
 have HRVs := zz (HRV2.out.fresh hb3)
 have HBW : Hid (Below w.heap.size w w2) := zz (HB2.out.trans (hb3.mono HB2.out.size))
 clear hb3 HB1 HRV2 HB2 HP1
 have hn := HN.out
 go_wp2_with fail
 refine (bF w2 (H0.out.fresh HBW.out) hn).mono ?_
 rintro e w3 ⟨rfl, hr3, hk3⟩
 clear hn
 have hne3 : ¬ sb = rb := by have := HSB.out; have := HLT.out; omega
 have hne4 : ¬ w.heap.size = rb := by have := HLT.out; omega
 have HBt0 := zz (HBs.out.keeps hk3 hne3)
 have HRVt0 := zz (HRVs.out.keeps hk3 hne4)
 have HR3 := zz hr3
 have HK3 : Hid (Keeps (fun b => b = rb) w w3) := zz ((Keeps.of_new HBW.out).trans hk3)
 have HN3 := zz hne3
 have HN4 := zz hne4
 have HE3 := zz (HE.out.own HK3.out)
 clear hr3 hk3 hne3 hne4
 unfold aR
 generalize mkT (pk E n).text = TT
 have HXP := zz (k8 (dd := 0) (Nat.zero_le _) (n + 1) w3 HR3.out HE3.out)
 go_wp2_with fail
 refine HXP.out.mono ?_
 rintro e w4 ⟨r, hev, hsay⟩
 have hev2 := zz (HEV.out r hev)
 cases r with
 | out => exact hsay.elim
 | bad k a =>
  have hsay' : Threw w3 w4 rb k a e := hsay
  obtain ⟨b, rfl⟩ := aB hsay'
  exact ⟨rfl, _, hev2.out, hsay'.own HLT.out HK3.out⟩
 | ok x m =>
  obtain ⟨v, rfl, hx, hr4, hk4⟩ := hsay
  obtain ⟨o, rfl⟩ := aL hx
  have HBt := zz (HBt0.out.keeps hk4 HN3.out)
  have HRV := zz (HRVt0.out.keeps hk4 HN4.out)
  have HRt := zz hr4
  have HKt := zz (HK3.out.trans hk4)
  have HEVt : Hid (Ev (fun f => Tr.stmt E f dep n) (.ok (stz 5 (pk E n).at_ [] .nil x) m)) := hev2
  have HSC : Hid (StC w4 (fun b => sb < b) (st1 5 (pk E n).at_ [] none o) (stz 5 (pk E n).at_ [] .nil x)) := zz (dB rfl (ExIn.mono (fun b _ e => by have h1 : w3.heap.size <= b := e; have := HBt0.out.lt; show sb < b; omega) _ _ hx))
  clear hx hr4 hk4 hev hev2
  have c0 := HBt.out.at_ 0 _ rfl
  have c1 := HBt.out.at_ 1 _ rfl
  have c2 := HBt.out.at_ 2 _ rfl
  have c3 := HBt.out.at_ 3 _ rfl
  have c4 := HBt.out.at_ 4 _ rfl
  have c5 := HBt.out.at_ 5 _ rfl
  have c6 := HBt.out.at_ 6 _ rfl
  have c7 := HBt.out.at_ 7 _ rfl
  have z0 := HBt.out.free 0
  have z4 := HBt.out.free 4
  have r0 := HRV.out.at_ 0 _ rfl
  have y0 := HRV.out.free 0
  have r1 := HRV.out.at_ 1 _ rfl
  have y1 := HRV.out.free 1
  have r2 := HRV.out.at_ 2 _ rfl
  have y2 := HRV.out.free 2
  have r3 := HRV.out.at_ 3 _ rfl
  have y3 := HRV.out.free 3
  have r4 := HRV.out.at_ 4 _ rfl
  have y4 := HRV.out.free 4
  have r5 := HRV.out.at_ 5 _ rfl
  have y5 := HRV.out.free 5
  have r6 := HRV.out.at_ 6 _ rfl
  have y6 := HRV.out.free 6
  have r7 := HRV.out.at_ 7 _ rfl
  have y7 := HRV.out.free 7
  have hne : w.heap.size ≠ sb := by have := HSB.out; omega
  have hne2 : sb ≠ w.heap.size := fun e => hne e.symm
  have HSB2 := zz hne
  go_wp2_with fail
  have hks : Keeps (fun b => b = sb \/ b = w.heap.size) w4 ((((((((((w4.setCell ⟨sb, 0, none⟩ (.int .i64 5)).setCell ⟨sb, 4, none⟩ (.pointer o)).setCell ⟨w.heap.size, 0, none⟩ (.int .i64 5)).setCell ⟨w.heap.size, 1, none⟩ (.int .i64 ((pk E n).at_ : Nat))).setCell ⟨w.heap.size, 2, none⟩ (.string (mkT []))).setCell ⟨w.heap.size, 3, none⟩ (.pointer none)).setCell ⟨w.heap.size, 4, none⟩ (.pointer o)).setCell ⟨w.heap.size, 5, none⟩ (.slice none 0 0)).setCell ⟨w.heap.size, 6, none⟩ (.slice none 0 0)).setCell ⟨w.heap.size, 7, none⟩ (.slice none 0 0)) := ((((((((((Keeps.refl (fun b => b = sb \/ b = w.heap.size) w4).setCell (S := fun b => b = sb \/ b = w.heap.size) (p := ⟨sb, 0, none⟩) (Or.inl (Or.inl rfl)) (.int .i64 5)).setCell (S := fun b => b = sb \/ b = w.heap.size) (p := ⟨sb, 4, none⟩) (Or.inl (Or.inl rfl)) (.pointer o)).setCell (S := fun b => b = sb \/ b = w.heap.size) (p := ⟨w.heap.size, 0, none⟩) (Or.inl (Or.inr rfl)) (.int .i64 5)).setCell (S := fun b => b = sb \/ b = w.heap.size) (p := ⟨w.heap.size, 1, none⟩) (Or.inl (Or.inr rfl)) (.int .i64 ((pk E n).at_ : Nat))).setCell (S := fun b => b = sb \/ b = w.heap.size) (p := ⟨w.heap.size, 2, none⟩) (Or.inl (Or.inr rfl)) (.string (mkT []))).setCell (S := fun b => b = sb \/ b = w.heap.size) (p := ⟨w.heap.size, 3, none⟩) (Or.inl (Or.inr rfl)) (.pointer none)).setCell (S := fun b => b = sb \/ b = w.heap.size) (p := ⟨w.heap.size, 4, none⟩) (Or.inl (Or.inr rfl)) (.pointer o)).setCell (S := fun b => b = sb \/ b = w.heap.size) (p := ⟨w.heap.size, 5, none⟩) (Or.inl (Or.inr rfl)) (.slice none 0 0)).setCell (S := fun b => b = sb \/ b = w.heap.size) (p := ⟨w.heap.size, 6, none⟩) (Or.inl (Or.inr rfl)) (.slice none 0 0)).setCell (S := fun b => b = sb \/ b = w.heap.size) (p := ⟨w.heap.size, 7, none⟩) (Or.inl (Or.inr rfl)) (.slice none 0 0)
  have hfin := eK HSC.out HRt.out HKt.out hks HSB.out HLT.out
  refine bodyPost_ret (v := .agg #[.int .i64 5, .int .i64 ((pk E n).at_ : Nat), .string (mkT []), .pointer none, .pointer o, .slice none 0 0, .slice none 0 0, .slice none 0 0]) (by simp [results, Tryz.results259, go_sem, r0, r1, r2, r3, r4, r5, r6, r7]) rfl ⟨.ok (stz 5 (pk E n).at_ [] .nil x) _, HEVt.out, _, rfl, ⟨_, rfl, hfin.1⟩, hfin.2.1, hfin.2.2⟩
theorem qM {dep : Nat} (w : World) (h : RdAt w rb tv E n dep) (hE : TEnv rb E w) (ht : (pk E n).text = iK) : Calls Tryz.prog 259 #[.pointer (some ⟨rb, 0, none⟩)] w fun e w' => ∃ r, Ev (fun f => Tr.stmt E f dep n) r /\ bL pG w w' rb tv E dep r e := by
 have hb0 : Below w.heap.size w (w.alloc (.cells #[.int .i64 0, .int .i64 0, .string ⟨#[]⟩, .pointer none, .pointer none, .slice none 0 0, .slice none 0 0, .slice none 0 0] 71)) := ((Keeps.refl (fun _ => False) w).alloc _).below (Nat.le_refl _) (fun _ _ e => e.elim)
 have hrv0 : Blk (w.alloc (.cells #[.int .i64 0, .int .i64 0, .string ⟨#[]⟩, .pointer none, .pointer none, .slice none 0 0, .slice none 0 0, .slice none 0 0] 71)) w.heap.size (st0 0) := Blk.new' w (st0 0) _ rfl
 have hp0 := aN _ (h.fresh hb0)
 have HPP : Hid (∀ W, Below w.heap.size w W -> Calls Tryz.prog 153 #[.pointer (some ⟨rb, 0, none⟩)] W fun e w' => e = .returned (aR (pk E n)) /\ Below W.heap.size W w') := zz fun W hb => aN W (h.fresh hb)
 have HN := zz (d8 ht (by decide))
 have HEV : Hid (∀ r, Ev (fun f => dJ E f 0 (n + 1)) r -> Ev (fun f => Tr.stmt E f dep n) (r.bind fun x m => .ok (stz 6 (pk E n).at_ [] .nil x) m)) := zz fun r hr => Ev.step (h := fun f => (dJ E f 0 (n + 1)).bind fun x m => .ok (stz 6 (pk E n).at_ [] .nil x) m) (fun f => by rw [dA, ht]; rfl) (Ev.map _ (fun _ _ e => by cases e) hr)
 have H0 := zz h
 have HE := zz hE
 have HLT := zz h.lt
 have HB0 := zz hb0
 have HRV0 := zz hrv0
 unfold aR at hp0 HPP
 have hTT : (pk E n).text = iK := ht
 obtain ⟨T, hT⟩ : ∃ T, T = mkT iK := ⟨_, rfl⟩
 have hT' : T = mkT (pk E n).text := by rw [hTT]; exact hT
 have b0 : (T.toList == [99, 108, 111, 115, 101]) = false := by rw [hT, Lib.toList_data]; rfl
 have b1 : (T.toList == [112, 114, 105, 110, 116]) = false := by rw [hT, Lib.toList_data]; rfl
 have b2 : (T.toList == [115, 108, 101, 101, 112]) = true := by rw [hT, Lib.toList_data]; rfl
 rw [<- hT'] at hp0 HPP
 have HP0 := zz hp0
 clear h hE hb0 hrv0 hp0 hT' ht hTT hT
 have hf := bW
 have hf1 := aY
 go_enter Tryz.func259, Tryz.ntmps259
 go_wp2_with fail
 refine HP0.out.mono ?_
 rintro e w1 ⟨rfl, hb1⟩
 have hb01 : Below w.heap.size w w1 := HB0.out.trans (hb1.mono HB0.out.size)
 have hrv1 := HRV0.out.fresh hb1
 obtain ⟨sb, hsb⟩ : ∃ sb, sb = w1.heap.size := ⟨_, rfl⟩
 have hsbn : w.heap.size < sb := by rw [hsb]; exact hrv1.lt
 have HSB := zz hsbn
 have hB1 : Blk (w1.alloc (.cells #[.int .i64 0, .int .i64 ((pk E n).at_ : Nat), .string ⟨#[]⟩, .pointer none, .pointer none, .slice none 0 0, .slice none 0 0, .slice none 0 0] 71)) sb (st0 (pk E n).at_) := Blk.new' w1 (st0 (pk E n).at_) _ hsb
 have hb2 : Below w.heap.size w (w1.alloc (.cells #[.int .i64 0, .int .i64 ((pk E n).at_ : Nat), .string ⟨#[]⟩, .pointer none, .pointer none, .slice none 0 0, .slice none 0 0, .slice none 0 0] 71)) := hb01.alloc hb01.size _
 have hrv2 : Blk (w1.alloc (.cells #[.int .i64 0, .int .i64 ((pk E n).at_ : Nat), .string ⟨#[]⟩, .pointer none, .pointer none, .slice none 0 0, .slice none 0 0, .slice none 0 0] 71)) w.heap.size (st0 0) := hrv1.keeps (S := fun _ => False) ((Keeps.refl _ w1).alloc _) id
 have HP1 := zz (HPP.out _ hb2)
 have HB1 := zz hB1
 have HB2 := zz hb2
 have HRV2 := zz hrv2
 clear hB1 hb2 hrv2 hrv1 hb01 hb1 hsbn HPP HP0
 go_wp2_with fail
 rw [<- hsb]
 clear hsb
 refine HP1.out.mono ?_
 rintro e w2 ⟨rfl, hb3⟩
 have HBs := zz (HB1.out.fresh hb3)
 have HRVs := zz (HRV2.out.fresh hb3)
 have HBW : Hid (Below w.heap.size w w2) := zz (HB2.out.trans (hb3.mono HB2.out.size))
 clear hb3 HB1 HRV2 HB2 HP1
 have hn := HN.out
 go_wp2_with fail
 refine (bF w2 (H0.out.fresh HBW.out) hn).mono ?_
 rintro e w3 ⟨rfl, hr3, hk3⟩
 clear hn
 have hne3 : ¬ sb = rb := by have := HSB.out; have := HLT.out; omega
 have hne4 : ¬ w.heap.size = rb := by have := HLT.out; omega
 have HBt0 := zz (HBs.out.keeps hk3 hne3)
 have HRVt0 := zz (HRVs.out.keeps hk3 hne4)
 have HR3 := zz hr3
 have HK3 : Hid (Keeps (fun b => b = rb) w w3) := zz ((Keeps.of_new HBW.out).trans hk3)
 have HN3 := zz hne3
 have HN4 := zz hne4
 have HE3 := zz (HE.out.own HK3.out)
 clear hr3 hk3 hne3 hne4
 unfold aR
 generalize mkT (pk E n).text = TT
 have HXP := zz (k8 (dd := 0) (Nat.zero_le _) (n + 1) w3 HR3.out HE3.out)
 go_wp2_with fail
 refine HXP.out.mono ?_
 rintro e w4 ⟨r, hev, hsay⟩
 have hev2 := zz (HEV.out r hev)
 cases r with
 | out => exact hsay.elim
 | bad k a =>
  have hsay' : Threw w3 w4 rb k a e := hsay
  obtain ⟨b, rfl⟩ := aB hsay'
  exact ⟨rfl, _, hev2.out, hsay'.own HLT.out HK3.out⟩
 | ok x m =>
  obtain ⟨v, rfl, hx, hr4, hk4⟩ := hsay
  obtain ⟨o, rfl⟩ := aL hx
  have HBt := zz (HBt0.out.keeps hk4 HN3.out)
  have HRV := zz (HRVt0.out.keeps hk4 HN4.out)
  have HRt := zz hr4
  have HKt := zz (HK3.out.trans hk4)
  have HEVt : Hid (Ev (fun f => Tr.stmt E f dep n) (.ok (stz 6 (pk E n).at_ [] .nil x) m)) := hev2
  have HSC : Hid (StC w4 (fun b => sb < b) (st1 6 (pk E n).at_ [] none o) (stz 6 (pk E n).at_ [] .nil x)) := zz (dB rfl (ExIn.mono (fun b _ e => by have h1 : w3.heap.size <= b := e; have := HBt0.out.lt; show sb < b; omega) _ _ hx))
  clear hx hr4 hk4 hev hev2
  have c0 := HBt.out.at_ 0 _ rfl
  have c1 := HBt.out.at_ 1 _ rfl
  have c2 := HBt.out.at_ 2 _ rfl
  have c3 := HBt.out.at_ 3 _ rfl
  have c4 := HBt.out.at_ 4 _ rfl
  have c5 := HBt.out.at_ 5 _ rfl
  have c6 := HBt.out.at_ 6 _ rfl
  have c7 := HBt.out.at_ 7 _ rfl
  have z0 := HBt.out.free 0
  have z4 := HBt.out.free 4
  have r0 := HRV.out.at_ 0 _ rfl
  have y0 := HRV.out.free 0
  have r1 := HRV.out.at_ 1 _ rfl
  have y1 := HRV.out.free 1
  have r2 := HRV.out.at_ 2 _ rfl
  have y2 := HRV.out.free 2
  have r3 := HRV.out.at_ 3 _ rfl
  have y3 := HRV.out.free 3
  have r4 := HRV.out.at_ 4 _ rfl
  have y4 := HRV.out.free 4
  have r5 := HRV.out.at_ 5 _ rfl
  have y5 := HRV.out.free 5
  have r6 := HRV.out.at_ 6 _ rfl
  have y6 := HRV.out.free 6
  have r7 := HRV.out.at_ 7 _ rfl
  have y7 := HRV.out.free 7
  have hne : w.heap.size ≠ sb := by have := HSB.out; omega
  have hne2 : sb ≠ w.heap.size := fun e => hne e.symm
  have HSB2 := zz hne
  go_wp2_with fail
  have hks : Keeps (fun b => b = sb \/ b = w.heap.size) w4 ((((((((((w4.setCell ⟨sb, 0, none⟩ (.int .i64 6)).setCell ⟨sb, 4, none⟩ (.pointer o)).setCell ⟨w.heap.size, 0, none⟩ (.int .i64 6)).setCell ⟨w.heap.size, 1, none⟩ (.int .i64 ((pk E n).at_ : Nat))).setCell ⟨w.heap.size, 2, none⟩ (.string (mkT []))).setCell ⟨w.heap.size, 3, none⟩ (.pointer none)).setCell ⟨w.heap.size, 4, none⟩ (.pointer o)).setCell ⟨w.heap.size, 5, none⟩ (.slice none 0 0)).setCell ⟨w.heap.size, 6, none⟩ (.slice none 0 0)).setCell ⟨w.heap.size, 7, none⟩ (.slice none 0 0)) := ((((((((((Keeps.refl (fun b => b = sb \/ b = w.heap.size) w4).setCell (S := fun b => b = sb \/ b = w.heap.size) (p := ⟨sb, 0, none⟩) (Or.inl (Or.inl rfl)) (.int .i64 6)).setCell (S := fun b => b = sb \/ b = w.heap.size) (p := ⟨sb, 4, none⟩) (Or.inl (Or.inl rfl)) (.pointer o)).setCell (S := fun b => b = sb \/ b = w.heap.size) (p := ⟨w.heap.size, 0, none⟩) (Or.inl (Or.inr rfl)) (.int .i64 6)).setCell (S := fun b => b = sb \/ b = w.heap.size) (p := ⟨w.heap.size, 1, none⟩) (Or.inl (Or.inr rfl)) (.int .i64 ((pk E n).at_ : Nat))).setCell (S := fun b => b = sb \/ b = w.heap.size) (p := ⟨w.heap.size, 2, none⟩) (Or.inl (Or.inr rfl)) (.string (mkT []))).setCell (S := fun b => b = sb \/ b = w.heap.size) (p := ⟨w.heap.size, 3, none⟩) (Or.inl (Or.inr rfl)) (.pointer none)).setCell (S := fun b => b = sb \/ b = w.heap.size) (p := ⟨w.heap.size, 4, none⟩) (Or.inl (Or.inr rfl)) (.pointer o)).setCell (S := fun b => b = sb \/ b = w.heap.size) (p := ⟨w.heap.size, 5, none⟩) (Or.inl (Or.inr rfl)) (.slice none 0 0)).setCell (S := fun b => b = sb \/ b = w.heap.size) (p := ⟨w.heap.size, 6, none⟩) (Or.inl (Or.inr rfl)) (.slice none 0 0)).setCell (S := fun b => b = sb \/ b = w.heap.size) (p := ⟨w.heap.size, 7, none⟩) (Or.inl (Or.inr rfl)) (.slice none 0 0)
  have hfin := eK HSC.out HRt.out HKt.out hks HSB.out HLT.out
  refine bodyPost_ret (v := .agg #[.int .i64 6, .int .i64 ((pk E n).at_ : Nat), .string (mkT []), .pointer none, .pointer o, .slice none 0 0, .slice none 0 0, .slice none 0 0]) (by simp [results, Tryz.results259, go_sem, r0, r1, r2, r3, r4, r5, r6, r7]) rfl ⟨.ok (stz 6 (pk E n).at_ [] .nil x) _, HEVt.out, _, rfl, ⟨_, rfl, hfin.1⟩, hfin.2.1, hfin.2.2⟩
theorem wJ {dep : Nat} (w : World) (h : RdAt w rb tv E n dep) (hE : TEnv rb E w) (ht : (pk E n).text = tGo) : Calls Tryz.prog 259 #[.pointer (some ⟨rb, 0, none⟩)] w fun e w' => ∃ r, Ev (fun f => Tr.stmt E f dep n) r /\ bL pG w w' rb tv E dep r e := by
 have hb0 : Below w.heap.size w (w.alloc (.cells #[.int .i64 0, .int .i64 0, .string ⟨#[]⟩, .pointer none, .pointer none, .slice none 0 0, .slice none 0 0, .slice none 0 0] 71)) := ((Keeps.refl (fun _ => False) w).alloc _).below (Nat.le_refl _) (fun _ _ e => e.elim)
 have hrv0 : Blk (w.alloc (.cells #[.int .i64 0, .int .i64 0, .string ⟨#[]⟩, .pointer none, .pointer none, .slice none 0 0, .slice none 0 0, .slice none 0 0] 71)) w.heap.size (st0 0) := Blk.new' w (st0 0) _ rfl
 have hp0 := aN _ (h.fresh hb0)
 have HPP : Hid (∀ W, Below w.heap.size w W -> Calls Tryz.prog 153 #[.pointer (some ⟨rb, 0, none⟩)] W fun e w' => e = .returned (aR (pk E n)) /\ Below W.heap.size W w') := zz fun W hb => aN W (h.fresh hb)
 have HN := zz (d8 ht (by decide))
 have HEV : Hid (∀ r, Ev (fun f => (aF E 1 (n + 1)).bind fun t m => (Tr.call E f 0 t m).bind fun x m2 => .ok (stz 7 (pk E n).at_ [] .nil x) m2) r -> Ev (fun f => Tr.stmt E f dep n) r) := zz fun r hr => Ev.step (h := fun f => (aF E 1 (n + 1)).bind fun t m => (Tr.call E f 0 t m).bind fun x m2 => .ok (stz 7 (pk E n).at_ [] .nil x) m2) (fun f => by rw [dA, ht]; rfl) hr
 have H0 := zz h
 have HE := zz hE
 have HLT := zz h.lt
 have HB0 := zz hb0
 have HRV0 := zz hrv0
 unfold aR at hp0 HPP
 have hTT : (pk E n).text = tGo := ht
 obtain ⟨T, hT⟩ : ∃ T, T = mkT tGo := ⟨_, rfl⟩
 have hT' : T = mkT (pk E n).text := by rw [hTT]; exact hT
 have b0 : (T.toList == [99, 108, 111, 115, 101]) = false := by rw [hT, Lib.toList_data]; rfl
 have b1 : (T.toList == [112, 114, 105, 110, 116]) = false := by rw [hT, Lib.toList_data]; rfl
 have b2 : (T.toList == [115, 108, 101, 101, 112]) = false := by rw [hT, Lib.toList_data]; rfl
 have b3 : (T.toList == [103, 111]) = true := by rw [hT, Lib.toList_data]; rfl
 rw [<- hT'] at hp0 HPP
 have HP0 := zz hp0
 clear h hE hb0 hrv0 hp0 hT' ht hTT hT
 have hf := bW
 have hf1 := aY
 go_enter Tryz.func259, Tryz.ntmps259
 go_wp2_with fail
 refine HP0.out.mono ?_
 rintro e w1 ⟨rfl, hb1⟩
 have hb01 : Below w.heap.size w w1 := HB0.out.trans (hb1.mono HB0.out.size)
 have hrv1 := HRV0.out.fresh hb1
 obtain ⟨sb, hsb⟩ : ∃ sb, sb = w1.heap.size := ⟨_, rfl⟩
 have hsbn : w.heap.size < sb := by rw [hsb]; exact hrv1.lt
 have HSB := zz hsbn
 have hB1 : Blk (w1.alloc (.cells #[.int .i64 0, .int .i64 ((pk E n).at_ : Nat), .string ⟨#[]⟩, .pointer none, .pointer none, .slice none 0 0, .slice none 0 0, .slice none 0 0] 71)) sb (st0 (pk E n).at_) := Blk.new' w1 (st0 (pk E n).at_) _ hsb
 have hb2 : Below w.heap.size w (w1.alloc (.cells #[.int .i64 0, .int .i64 ((pk E n).at_ : Nat), .string ⟨#[]⟩, .pointer none, .pointer none, .slice none 0 0, .slice none 0 0, .slice none 0 0] 71)) := hb01.alloc hb01.size _
 have hrv2 : Blk (w1.alloc (.cells #[.int .i64 0, .int .i64 ((pk E n).at_ : Nat), .string ⟨#[]⟩, .pointer none, .pointer none, .slice none 0 0, .slice none 0 0, .slice none 0 0] 71)) w.heap.size (st0 0) := hrv1.keeps (S := fun _ => False) ((Keeps.refl _ w1).alloc _) id
 have HP1 := zz (HPP.out _ hb2)
 have HB1 := zz hB1
 have HB2 := zz hb2
 have HRV2 := zz hrv2
 clear hB1 hb2 hrv2 hrv1 hb01 hb1 hsbn HPP HP0
 go_wp2_with fail
 rw [<- hsb]
 clear hsb
 refine HP1.out.mono ?_
 rintro e w2 ⟨rfl, hb3⟩
 have HBs := zz (HB1.out.fresh hb3)
 have HRVs := zz (HRV2.out.fresh hb3)
 have HBW : Hid (Below w.heap.size w w2) := zz (HB2.out.trans (hb3.mono HB2.out.size))
 clear hb3 HB1 HRV2 HB2 HP1
 have hn := HN.out
 go_wp2_with fail
 refine (bF w2 (H0.out.fresh HBW.out) hn).mono ?_
 rintro e w3 ⟨rfl, hr3, hk3⟩
 clear hn
 have hne3 : ¬ sb = rb := by have := HSB.out; have := HLT.out; omega
 have hne4 : ¬ w.heap.size = rb := by have := HLT.out; omega
 have HBt0 := zz (HBs.out.keeps hk3 hne3)
 have HRVt0 := zz (HRVs.out.keeps hk3 hne4)
 have HR3 := zz hr3
 have HK3 : Hid (Keeps (fun b => b = rb) w w3) := zz ((Keeps.of_new HBW.out).trans hk3)
 have HN3 := zz hne3
 have HN4 := zz hne4
 have HE3 := zz (HE.out.own HK3.out)
 clear hr3 hk3 hne3 hne4
 unfold aR
 generalize mkT (pk E n).text = TT
 have HTK := zz (aX 1 (by decide) w3 HR3.out)
 go_wp2_with fail
 cases ht1 : aF E 1 (n + 1) with
 | out => exact absurd ht1 (bR E _ _)
 | bad k a =>
  rw [ht1] at HTK
  refine HTK.out.mono ?_
  rintro e w4 hth
  have hth2 := Threw.own hth HLT.out HK3.out
  obtain ⟨b, rfl⟩ := aB hth
  exact ⟨rfl, .bad k a, HEV.out _ (by rw [ht1]; exact Ev.pure (fun e => by cases e) fun _ => rfl), hth2⟩
 | ok t1 m1 =>
  rw [ht1] at HTK
  have HTT := zz ht1
  clear ht1
  refine HTK.out.mono ?_
  rintro e w4 ⟨v4, rfl, rfl, hr4, hk4⟩
  have HB4 := zz (HBt0.out.keeps hk4 HN3.out)
  have HRV4 := zz (HRVt0.out.keeps hk4 HN4.out)
  have HK4 := zz (HK3.out.trans hk4)
  have HXP := zz (LF (dd := 0) (by decide) t1 m1 w4 hr4 (HE3.out.own hk4))
  clear hr4 hk4
  go_wp2_with fail
  refine HXP.out.mono ?_
  rintro e w5 ⟨r, hev, hsay⟩
  have hev2 : Hid (Ev (fun f => Tr.stmt E f dep n) (r.bind fun x m2 => .ok (stz 7 (pk E n).at_ [] .nil x) m2)) := zz (HEV.out _ (by rw [HTT.out]; exact Ev.map _ (fun _ _ e => by cases e) hev))
  cases r with
  | out => exact hsay.elim
  | bad k a =>
   have hsay' : Threw w4 w5 rb k a e := hsay
   obtain ⟨b, rfl⟩ := aB hsay'
   exact ⟨rfl, _, hev2.out, hsay'.own HLT.out HK4.out⟩
  | ok x m =>
   obtain ⟨v, rfl, hx, hr5, hk5⟩ := hsay
   obtain ⟨o, rfl⟩ := aL hx
   have HBt := zz (HB4.out.keeps hk5 HN3.out)
   have HRV := zz (HRV4.out.keeps hk5 HN4.out)
   have HRt := zz hr5
   have HKt := zz (HK4.out.trans hk5)
   have HEVt : Hid (Ev (fun f => Tr.stmt E f dep n) (.ok (stz 7 (pk E n).at_ [] .nil x) m)) := hev2
   have HSC : Hid (StC w5 (fun b => sb < b) (st1 7 (pk E n).at_ [] none o) (stz 7 (pk E n).at_ [] .nil x)) := zz (dB rfl (ExIn.mono (fun b _ e => by have h1 : w4.heap.size <= b := e; have := HB4.out.lt; show sb < b; omega) _ _ hx))
   clear hx hr5 hk5 hev hev2
   have c0 := HBt.out.at_ 0 _ rfl
   have c1 := HBt.out.at_ 1 _ rfl
   have c2 := HBt.out.at_ 2 _ rfl
   have c3 := HBt.out.at_ 3 _ rfl
   have c4 := HBt.out.at_ 4 _ rfl
   have c5 := HBt.out.at_ 5 _ rfl
   have c6 := HBt.out.at_ 6 _ rfl
   have c7 := HBt.out.at_ 7 _ rfl
   have z0 := HBt.out.free 0
   have z4 := HBt.out.free 4
   have r0 := HRV.out.at_ 0 _ rfl
   have y0 := HRV.out.free 0
   have r1 := HRV.out.at_ 1 _ rfl
   have y1 := HRV.out.free 1
   have r2 := HRV.out.at_ 2 _ rfl
   have y2 := HRV.out.free 2
   have r3 := HRV.out.at_ 3 _ rfl
   have y3 := HRV.out.free 3
   have r4 := HRV.out.at_ 4 _ rfl
   have y4 := HRV.out.free 4
   have r5 := HRV.out.at_ 5 _ rfl
   have y5 := HRV.out.free 5
   have r6 := HRV.out.at_ 6 _ rfl
   have y6 := HRV.out.free 6
   have r7 := HRV.out.at_ 7 _ rfl
   have y7 := HRV.out.free 7
   have hne : w.heap.size ≠ sb := by have := HSB.out; omega
   have hne2 : sb ≠ w.heap.size := fun e => hne e.symm
   have HSB2 := zz hne
   go_wp2_with fail
   have hks : Keeps (fun b => b = sb \/ b = w.heap.size) w5 ((((((((((w5.setCell ⟨sb, 0, none⟩ (.int .i64 7)).setCell ⟨sb, 4, none⟩ (.pointer o)).setCell ⟨w.heap.size, 0, none⟩ (.int .i64 7)).setCell ⟨w.heap.size, 1, none⟩ (.int .i64 ((pk E n).at_ : Nat))).setCell ⟨w.heap.size, 2, none⟩ (.string (mkT []))).setCell ⟨w.heap.size, 3, none⟩ (.pointer none)).setCell ⟨w.heap.size, 4, none⟩ (.pointer o)).setCell ⟨w.heap.size, 5, none⟩ (.slice none 0 0)).setCell ⟨w.heap.size, 6, none⟩ (.slice none 0 0)).setCell ⟨w.heap.size, 7, none⟩ (.slice none 0 0)) := ((((((((((Keeps.refl (fun b => b = sb \/ b = w.heap.size) w5).setCell (S := fun b => b = sb \/ b = w.heap.size) (p := ⟨sb, 0, none⟩) (Or.inl (Or.inl rfl)) (.int .i64 7)).setCell (S := fun b => b = sb \/ b = w.heap.size) (p := ⟨sb, 4, none⟩) (Or.inl (Or.inl rfl)) (.pointer o)).setCell (S := fun b => b = sb \/ b = w.heap.size) (p := ⟨w.heap.size, 0, none⟩) (Or.inl (Or.inr rfl)) (.int .i64 7)).setCell (S := fun b => b = sb \/ b = w.heap.size) (p := ⟨w.heap.size, 1, none⟩) (Or.inl (Or.inr rfl)) (.int .i64 ((pk E n).at_ : Nat))).setCell (S := fun b => b = sb \/ b = w.heap.size) (p := ⟨w.heap.size, 2, none⟩) (Or.inl (Or.inr rfl)) (.string (mkT []))).setCell (S := fun b => b = sb \/ b = w.heap.size) (p := ⟨w.heap.size, 3, none⟩) (Or.inl (Or.inr rfl)) (.pointer none)).setCell (S := fun b => b = sb \/ b = w.heap.size) (p := ⟨w.heap.size, 4, none⟩) (Or.inl (Or.inr rfl)) (.pointer o)).setCell (S := fun b => b = sb \/ b = w.heap.size) (p := ⟨w.heap.size, 5, none⟩) (Or.inl (Or.inr rfl)) (.slice none 0 0)).setCell (S := fun b => b = sb \/ b = w.heap.size) (p := ⟨w.heap.size, 6, none⟩) (Or.inl (Or.inr rfl)) (.slice none 0 0)).setCell (S := fun b => b = sb \/ b = w.heap.size) (p := ⟨w.heap.size, 7, none⟩) (Or.inl (Or.inr rfl)) (.slice none 0 0)
   have hfin := eK HSC.out HRt.out HKt.out hks HSB.out HLT.out
   refine bodyPost_ret (v := .agg #[.int .i64 7, .int .i64 ((pk E n).at_ : Nat), .string (mkT []), .pointer none, .pointer o, .slice none 0 0, .slice none 0 0, .slice none 0 0]) (by simp [results, Tryz.results259, go_sem, r0, r1, r2, r3, r4, r5, r6, r7]) rfl ⟨.ok (stz 7 (pk E n).at_ [] .nil x) _, HEVt.out, _, rfl, ⟨_, rfl, hfin.1⟩, hfin.2.1, hfin.2.2⟩
end Go.Proofs.YtnpapppipccdbaaGreatDoor
