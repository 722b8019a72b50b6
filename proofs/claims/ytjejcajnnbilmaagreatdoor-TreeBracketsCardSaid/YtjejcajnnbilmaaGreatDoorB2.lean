/-
  Texts of one proof, in build order: TreeR9 TreeR6 TreeR7 TreeRB TreeRA TreeRC TreeS1 TreeS2 TreeS3 TreeS4
-/
import Derived.Test.YtjejcajnnbilmaaGreatDoorB1
import Derived.Deep.RegionHeld
set_option maxRecDepth 100000
set_option maxHeartbeats 12800000
namespace Go.Proofs.YtjejcajnnbilmaaGreatDoor
open Go.RowKit in
theorem tk {P : Program} {ops : Array Oper} {Q : Exit -> Act -> World -> Prop} {md : Region.Mode} {S : World -> Prop} (i d : Nat) (v : Value) {op : Op} {ty : TypeId} {pos : String} {after : Array Edge} {guard : Option (Nat × Bool)} {fuel : Nat} {listed : Array Bool} {a : Act} {w : World}
 (hi : ops[i]? = some { dst := some d, op := op, type := ty, pos := pos, after := after, guard := guard }) (hy : YieldsIf P ops S { dst := some d, op := op, type := ty, pos := pos, after := after, guard := guard } v a) (hS : S w) (h : wpAnyH P md ops Q S fuel (listed.setIfInBounds i true) (a.put (some d) v) w)
 (hs : Region.noSelect ops = true := by kernel_rfl) (hf : Region.free md ops listed i = true := by kernel_rfl) (hr : (Region.ready md ops listed).contains i = true := by kernel_rfl) (hQ : ∀ c a w, Q (.panic c) (a.put (some d) v) w -> Q (.panic c) a w := by exact fun _ _ _ h => h) : wpAnyH P md ops Q S (fuel + 1) listed a w :=
 wpAnyH_take hi hs hf hr hQ hy hS h
end Go.Proofs.YtjejcajnnbilmaaGreatDoor
namespace Go.Proofs.YtjejcajnnbilmaaGreatDoor
open Go.RowKit Lx Tr
variable {w w' : World} {rb n d dd : Nat} {tv : Value} {E : Env}
theorem one_eq (f d n : Nat) : Tr.one E (f + 1) d n =
  if 12 < d then fail E 4 n
  else if (pk E n).kind = 3 then .ok (leaf 1 (pk E n).at_ (numV (pk E n).text) []) (n + 1)
  else if (pk E n).kind = 1 then named E f d n
  else if (pk E n).text = tLp then bracketed E f d n
  else if (pk E n).text = [45] \/ (pk E n).text = [94] \/ (pk E n).text = [33] then (Tr.one E f (d + 1) (n + 1)).bind fun x m => .ok (.mk 6 (pk E n).at_ 0 (op1V (pk E n).text) [] x .nil .nil) m
  else if (pk E n).text = tArrow then (Tr.one E f (d + 1) (n + 1)).bind fun x m => .ok (.mk 10 (pk E n).at_ 0 0 [] x .nil .nil) m
  else if (pk E n).text = tMake then (bracketed E f d (n + 1)).bind fun x m => .ok (.mk 8 (pk E n).at_ 0 0 [] x .nil .nil) m
  else if (pk E n).text = tLen then (bracketed E f d (n + 1)).bind fun x m => .ok (.mk 9 (pk E n).at_ 0 0 [] x .nil .nil) m
  else if (pk E n).text = tTrue then .ok (leaf 2 (pk E n).at_ 1 []) (n + 1)
  else if (pk E n).text = tFalse then .ok (leaf 2 (pk E n).at_ 0 []) (n + 1)
  else if (pk E n).text = tNil then .ok (leaf 3 (pk E n).at_ 0 []) (n + 1)
  else fail E 3 n := by rw [Tr.one]
theorem rone_deep {dep : Nat} (hd : 12 < dd) : OneC rb tv E dep dd := by
 intro n w h hE
 have HF := zz (fail_any 4 w h)
 have hi : ¬ ((dd : Int) <= 12) := by omega
 have hi2 : (12 : Int) < (dd : Int) := by omega
 have HEV : Hid (Ev (fun f => Tr.one E f dd n) (.bad 4 (pk E n).at_)) := zz (Ev.now (fun e => by cases e) fun f => by rw [one_eq, if_pos hd]; rfl)
 clear h hE hd
 go_enter Tryz.func195, Tryz.ntmps195
 go_wp2_with fail
 refine HF.out.mono ?_
 rintro e w1 ht
 have ht2 := ht
 obtain ⟨b, rfl⟩ := threw_panic ht
 exact ⟨rfl, _, HEV.out, ht2⟩
theorem rone_num {dep : Nat} (hd : dd <= 12) (w : World) (h : RdAt w rb tv E n dep) (hE : TEnv rb E w) (hk : (pk E n).kind = 3) : Calls Tryz.prog 195 #[.pointer (some ⟨rb, 0, none⟩), .int .i64 (dd : Nat)] w fun e w' =>
  ∃ r, Ev (fun f => Tr.one E f dd n) r /\ Says ExV w w' rb tv E dep r e := by
 have HP := zz (peek_any w h)
 have HN : Hid (∀ W, Below w.heap.size w W -> Calls Tryz.prog 204 #[.pointer (some ⟨rb, 0, none⟩)] W fun e w' => Says ExV W w' rb tv E dep (.ok (leaf 1 (pk E n).at_ (numV (pk E n).text) []) (n + 1)) e) :=
  zz fun W hb => number_any W (h.fresh hb) (hE.fresh hb) hk
 have HEV : Hid (Ev (fun f => Tr.one E f dd n) (.ok (leaf 1 (pk E n).at_ (numV (pk E n).text) []) (n + 1))) := zz (Ev.now (fun e => by cases e) fun f => by rw [one_eq, if_neg (by omega), if_pos hk])
 have hi : (dd : Int) <= 12 := by omega
 have hki : ((pk E n).kind : Int) = 3 := by omega
 clear h hE hk hd
 unfold tokV at HP
 rw [hki] at HP
 generalize mkT (pk E n).text = T at *
 have hf := tok_field0
 go_enter Tryz.func195, Tryz.ntmps195
 go_wp2_with (go_at_call 88; refine HP.out.mono ?_; rintro e w1 ⟨rfl, hb1⟩)
 refine (HN.out w1 hb1).mono ?_
 rintro e w2 ⟨v, rfl, hx, hr, hk2⟩
 go_wp2_with fail
 go_ret
 exact ⟨_, HEV.out, v, rfl, hx.of hb1.size, hr, (Keeps.of_new hb1).trans hk2⟩
theorem rone_name {dep : Nat} (hd : dd <= 12) (hC : CallC rb tv E dep dd) (w : World) (h : RdAt w rb tv E n dep) (hE : TEnv rb E w) (hk : (pk E n).kind = 1) : Calls Tryz.prog 195 #[.pointer (some ⟨rb, 0, none⟩), .int .i64 (dd : Nat)] w fun e w' =>
  ∃ r, Ev (fun f => Tr.one E f dd n) r /\ Says ExV w w' rb tv E dep r e := by
 have HP := zz (peek_any w h)
 have HN : Hid (∀ W, Below w.heap.size w W -> Calls Tryz.prog 205 #[.pointer (some ⟨rb, 0, none⟩), .int .i64 (dd : Nat)] W fun e w' => ∃ r, Ev (fun f => named E f dd n) r /\ Says ExV W w' rb tv E dep r e) :=
  zz fun W hb => named_any hC W (h.fresh hb) (hE.fresh hb) hk
 have HEV : Hid (∀ r, Ev (fun f => named E f dd n) r -> Ev (fun f => Tr.one E f dd n) r) := zz fun r hr => Ev.step (fun f => by rw [one_eq, if_neg (by omega), if_neg (by omega), if_pos hk]) hr
 have hi : (dd : Int) <= 12 := by omega
 have hki : ((pk E n).kind : Int) = 1 := by omega
 have hlt := zz h.lt
 clear h hE hk hd hC
 unfold tokV at HP
 rw [hki] at HP
 generalize mkT (pk E n).text = T at *
 have hf := tok_field0
 go_enter Tryz.func195, Tryz.ntmps195
 go_wp2_with (go_at_call 88; refine HP.out.mono ?_; rintro e w1 ⟨rfl, hb1⟩)
 refine (HN.out w1 hb1).mono ?_
 rintro e w2 ⟨r, hev, hsay⟩
 cases r with
 | out => exact hsay.elim
 | bad k a =>
  have hsay' : Threw w1 w2 rb k a e := hsay
  obtain ⟨b, rfl⟩ := threw_panic hsay'
  exact ⟨rfl, _, HEV.out _ hev, hsay'.own hlt.out (Keeps.of_new hb1)⟩
 | ok x m =>
  obtain ⟨v, rfl, hx, hr, hk2⟩ := hsay
  go_wp2_with fail
  go_ret
  exact ⟨_, HEV.out _ hev, v, rfl, hx.of hb1.size, hr, (Keeps.of_new hb1).trans hk2⟩
def AfterItem {β : Type} (E : Env) (P : β -> Nat -> Res β -> Prop) (acc : β) (m : Nat) (r : Res β) : Prop :=
 ((pk E m).text = tComma /\ P acc (m + 1) r) \/ ((pk E m).text ≠ tComma /\ r = (take E tRp m).bind fun _ m2 => .ok acc m2)
def ListR {β : Type} (E : Env) (P : β -> Nat -> Res β -> Prop) (acc : β) (n : Nat) (r : Res β) : Prop :=
 (∃ k a, take E tLp n = .bad k a /\ r = .bad k a) \/ ∃ t n1, take E tLp n = .ok t n1 /\ (((pk E n1).text = tRp /\ r = .ok acc (n1 + 1)) \/ ((pk E n1).text ≠ tRp /\ P acc n1 r))
structure ItemC {β : Type} (w : World) (rb : Nat) (tv : Value) (E : Env) (d : Nat) (F : FuncId) (caps : Array Value) (J : World -> Nat -> β -> Prop) (P : β -> Nat -> Res β -> Prop) : Prop where
 rd : ∀ W m acc, J W m acc -> RdAt W rb tv E m d
 on : ∀ W W' m m' acc, m <= m' -> J W m acc -> Keeps (fun b => b = rb) W W' -> RdAt W' rb tv E m' d -> J W' m' acc
 old : ∀ W m acc, J W m acc -> Below rb w W
 item : ∀ W m acc, J W m acc -> Calls Tryz.prog F caps W fun e W' => (∃ k a, P acc m (.bad k a) /\ Threw W W' rb k a e) \/ (∃ acc' m', m < m' /\ e = .returned (.tuple #[]) /\ J W' m' acc' /\ ∀ r, AfterItem E P acc' m' r -> P acc m r)
theorem list_call {β : Type} {caps : Array Value} {J : World -> Nat -> β -> Prop} {P : β -> Nat -> Res β -> Prop} (hC : ItemC w rb tv E d 191 caps J P) (acc0 : β) (hJ : J w n acc0) :
  Calls Tryz.prog 90 #[.pointer (some ⟨rb, 0, none⟩), .func (.func 191) #[] caps] w fun e w' => ∃ r : Res β, ListR E P acc0 n r /\ match r with
   | .ok acc m => e = .returned (.tuple #[]) /\ J w' m acc
   | .bad k a => Threw w w' rb k a e
   | .out => False := by
 have HC := zz hC
 have h0 := hC.rd _ _ _ hJ
 have HJ := zz hJ
 have HTK := zz (take_tok ⟨#[40]⟩ (by decide) w h0)
 have HLT := zz h0.lt
 have e40 : (⟨#[40]⟩ : ByteArray).data.toList = tLp := rfl
 have e41 : (⟨#[41]⟩ : ByteArray).data.toList = tRp := rfl
 have e44 : (⟨#[44]⟩ : ByteArray).data.toList = tComma := rfl
 rw [e40] at HTK
 clear hC hJ h0 e40
 cases ht : take E tLp n with
 | out => exact absurd ht (take_ne E _ _)
 | bad k a =>
  rw [ht] at HTK
  have HT := zz ht
  clear ht e41 e44
  go_enter Tryz.func90, Tryz.ntmps90
  go_wp2_with fail
  refine HTK.out.mono ?_
  rintro e w1 hth
  obtain ⟨b, rfl⟩ := threw_panic hth
  exact ⟨rfl, .bad k a, Or.inl ⟨k, a, HT.out, rfl⟩, hth⟩
 | ok t n1 =>
  rw [ht] at HTK
  have HT := zz ht
  clear ht
  go_enter Tryz.func90, Tryz.ntmps90
  go_wp2_with fail
  refine HTK.out.mono ?_
  rintro e w1 ⟨v, rfl, _, hr1, hk1⟩
  have HJ1 := zz (HC.out.on _ _ _ _ _ (Nat.le_of_lt (take_on HT.out)) HJ.out hk1 hr1)
  have HTI := takeIf_tok ⟨#[41]⟩ (by decide) w1 hr1
  rw [e41] at HTI
  have HI := zz HTI
  clear HTI hr1 hk1
  go_wp2_with fail
  by_cases hrp : (pk E n1).text = tRp
  ·have hv : takeIfV E tRp n1 = n1 + 1 := by unfold takeIfV; rw [if_pos hrp]
   rw [hv, decide_eq_true hrp] at HI
   have HRP := zz hrp
   clear hv hrp
   refine HI.out.mono ?_
   rintro e w2 ⟨rfl, hr2, hk2⟩
   have HJ2 := zz (HC.out.on _ _ _ _ _ (Nat.le_succ _) HJ1.out hk2 hr2)
   clear hr2 hk2
   go_wp2_with fail
   try simp only [Exit.inBlock, Exit.then]
   refine bodyPost_ret (results_none rfl _ _ _) rfl ?_
   exact ⟨.ok acc0 (n1 + 1), Or.inr ⟨t, n1, HT.out, Or.inl ⟨HRP.out, rfl⟩⟩, rfl, HJ2.out⟩
  ·have hv : takeIfV E tRp n1 = n1 := by unfold takeIfV; rw [if_neg hrp]
   rw [hv, decide_eq_false hrp] at HI
   have HRP := zz hrp
   clear hv hrp
   refine HI.out.mono ?_
   rintro e w2 ⟨rfl, hr2, hk2⟩
   have HJ2 := zz (HC.out.on _ _ _ _ _ (Nat.le_refl _) HJ1.out hk2 hr2)
   clear hr2 hk2
   go_wp2_with fail
   refine (HC.out.item _ _ _ HJ2.out).mono ?_
   rintro e w3 hit
   rcases hit with ⟨k, a, hp, hth⟩ | ⟨acc1, m1, hm1, rfl, hj3, hr⟩
   ·have hth2 := hth.after (HC.out.old _ _ _ HJ2.out)
    obtain ⟨b, rfl⟩ := threw_panic hth
    exact ⟨rfl, .bad k a, Or.inr ⟨t, n1, HT.out, Or.inr ⟨HRP.out, hp⟩⟩, hth2⟩
   ·have HI3 : Hid (∃ acc m, J w3 m acc /\ ∀ r, AfterItem E P acc m r -> ListR E P acc0 n r) := zz ⟨acc1, m1, hj3, fun r h => Or.inr ⟨t, n1, HT.out, Or.inr ⟨HRP.out, hr r h⟩⟩⟩
    clear hj3 hr hm1
    go_wp2_with fail
    go_loopw [] (fun wr => ∃ acc m, J wr m acc /\ ∀ r, AfterItem E P acc m r -> ListR E P acc0 n r) (fun wr => E.toks.length - posOf wr rb)
    case atStart => exact HI3.out
    case round =>
     obtain ⟨acc, m, hj, hr⟩ := hrel
     have HJ4 := zz hj
     have HR := zz hr
     have HTI := takeIf_tok ⟨#[44]⟩ (by decide) wr (HC.out.rd _ _ _ hj)
     rw [e44] at HTI
     have HI := zz HTI
     clear HTI hj hr
     by_cases hcm : (pk E m).text = tComma
     ·have hv : takeIfV E tComma m = m + 1 := by unfold takeIfV; rw [if_pos hcm]
      rw [hv, decide_eq_true hcm] at HI
      have HCM := zz hcm
      clear hv hcm
      go_wp2_with fail
      refine HI.out.mono ?_
      rintro e w5 ⟨rfl, hr5, hk5⟩
      have HJ5 := zz (HC.out.on _ _ _ _ _ (Nat.le_succ _) HJ4.out hk5 hr5)
      clear hr5 hk5
      go_wp2_with fail
      refine (HC.out.item _ _ _ HJ5.out).mono ?_
      rintro e w6 hit
      rcases hit with ⟨k, a, hp, hth⟩ | ⟨acc1, m1, hm1, rfl, hj6, hr6⟩
      ·have hth2 := hth.after (HC.out.old _ _ _ HJ5.out)
       obtain ⟨b, rfl⟩ := threw_panic hth
       exact ⟨rfl, .bad k a, HR.out _ (Or.inl ⟨HCM.out, hp⟩), hth2⟩
      ·go_wp2_with fail
       refine ⟨⟨acc1, m1, hj6, fun r h => HR.out r (Or.inl ⟨HCM.out, hr6 r h⟩)⟩, ?_⟩
       have h1 := HC.out.rd _ _ _ hj6
       have h2 := HC.out.rd _ _ _ HJ4.out
       rw [h1.pos, h2.pos]
       have := h1.hn
       omega
     ·have hv : takeIfV E tComma m = m := by unfold takeIfV; rw [if_neg hcm]
      rw [hv, decide_eq_false hcm] at HI
      have HCM := zz hcm
      clear hv hcm
      go_wp2_with fail
      refine HI.out.mono ?_
      rintro e w5 ⟨rfl, hr5, hk5⟩
      have HJ5 := zz (HC.out.on _ _ _ _ _ (Nat.le_refl _) HJ4.out hk5 hr5)
      have HT5 := take_tok ⟨#[41]⟩ (by decide) w5 hr5
      rw [e41] at HT5
      have HTT := zz HT5
      clear hr5 hk5 HT5
      go_wp2_with fail
      cases ht2 : take E tRp m with
      | out => exact absurd ht2 (take_ne E _ _)
      | bad k a =>
       rw [ht2] at HTT
       refine HTT.out.mono ?_
       rintro e w6 hth
       have hth2 := Threw.after hth (HC.out.old _ _ _ HJ5.out)
       obtain ⟨b, rfl⟩ := threw_panic hth
       exact ⟨rfl, .bad k a, HR.out _ (Or.inr ⟨HCM.out, by rw [ht2]; rfl⟩), hth2⟩
      | ok t2 m2 =>
       rw [ht2] at HTT
       refine HTT.out.mono ?_
       rintro e w6 ⟨v6, rfl, _, hr6, hk6⟩
       have HJ6 := zz (HC.out.on _ _ _ _ _ (Nat.le_of_lt (take_on ht2)) HJ5.out hk6 hr6)
       have HT2 := zz ht2
       clear hr6 hk6 ht2
       go_wp2_with fail
       go_end0
       exact ⟨.ok acc m2, HR.out _ (Or.inr ⟨HCM.out, by rw [HT2.out]; rfl⟩), rfl, HJ6.out⟩
theorem list_fn {β : Type} {caps : Array Value} {J : World -> Nat -> β -> Prop} {P : β -> Nat -> Res β -> Prop} (hC : ItemC w rb tv E d 91 caps J P) (acc0 : β) (hJ : J w n acc0) :
  Calls Tryz.prog 90 #[.pointer (some ⟨rb, 0, none⟩), .func (.func 91) #[] caps] w fun e w' => ∃ r : Res β, ListR E P acc0 n r /\ match r with
   | .ok acc m => e = .returned (.tuple #[]) /\ J w' m acc
   | .bad k a => Threw w w' rb k a e
   | .out => False := by
 have HC := zz hC
 have h0 := hC.rd _ _ _ hJ
 have HJ := zz hJ
 have HTK := zz (take_tok ⟨#[40]⟩ (by decide) w h0)
 have HLT := zz h0.lt
 have e40 : (⟨#[40]⟩ : ByteArray).data.toList = tLp := rfl
 have e41 : (⟨#[41]⟩ : ByteArray).data.toList = tRp := rfl
 have e44 : (⟨#[44]⟩ : ByteArray).data.toList = tComma := rfl
 rw [e40] at HTK
 clear hC hJ h0 e40
 cases ht : take E tLp n with
 | out => exact absurd ht (take_ne E _ _)
 | bad k a =>
  rw [ht] at HTK
  have HT := zz ht
  clear ht e41 e44
  go_enter Tryz.func90, Tryz.ntmps90
  go_wp2_with fail
  refine HTK.out.mono ?_
  rintro e w1 hth
  obtain ⟨b, rfl⟩ := threw_panic hth
  exact ⟨rfl, .bad k a, Or.inl ⟨k, a, HT.out, rfl⟩, hth⟩
 | ok t n1 =>
  rw [ht] at HTK
  have HT := zz ht
  clear ht
  go_enter Tryz.func90, Tryz.ntmps90
  go_wp2_with fail
  refine HTK.out.mono ?_
  rintro e w1 ⟨v, rfl, _, hr1, hk1⟩
  have HJ1 := zz (HC.out.on _ _ _ _ _ (Nat.le_of_lt (take_on HT.out)) HJ.out hk1 hr1)
  have HTI := takeIf_tok ⟨#[41]⟩ (by decide) w1 hr1
  rw [e41] at HTI
  have HI := zz HTI
  clear HTI hr1 hk1
  go_wp2_with fail
  by_cases hrp : (pk E n1).text = tRp
  ·have hv : takeIfV E tRp n1 = n1 + 1 := by unfold takeIfV; rw [if_pos hrp]
   rw [hv, decide_eq_true hrp] at HI
   have HRP := zz hrp
   clear hv hrp
   refine HI.out.mono ?_
   rintro e w2 ⟨rfl, hr2, hk2⟩
   have HJ2 := zz (HC.out.on _ _ _ _ _ (Nat.le_succ _) HJ1.out hk2 hr2)
   clear hr2 hk2
   go_wp2_with fail
   try simp only [Exit.inBlock, Exit.then]
   refine bodyPost_ret (results_none rfl _ _ _) rfl ?_
   exact ⟨.ok acc0 (n1 + 1), Or.inr ⟨t, n1, HT.out, Or.inl ⟨HRP.out, rfl⟩⟩, rfl, HJ2.out⟩
  ·have hv : takeIfV E tRp n1 = n1 := by unfold takeIfV; rw [if_neg hrp]
   rw [hv, decide_eq_false hrp] at HI
   have HRP := zz hrp
   clear hv hrp
   refine HI.out.mono ?_
   rintro e w2 ⟨rfl, hr2, hk2⟩
   have HJ2 := zz (HC.out.on _ _ _ _ _ (Nat.le_refl _) HJ1.out hk2 hr2)
   clear hr2 hk2
   go_wp2_with fail
   refine (HC.out.item _ _ _ HJ2.out).mono ?_
   rintro e w3 hit
   rcases hit with ⟨k, a, hp, hth⟩ | ⟨acc1, m1, hm1, rfl, hj3, hr⟩
   ·have hth2 := hth.after (HC.out.old _ _ _ HJ2.out)
    obtain ⟨b, rfl⟩ := threw_panic hth
    exact ⟨rfl, .bad k a, Or.inr ⟨t, n1, HT.out, Or.inr ⟨HRP.out, hp⟩⟩, hth2⟩
   ·have HI3 : Hid (∃ acc m, J w3 m acc /\ ∀ r, AfterItem E P acc m r -> ListR E P acc0 n r) := zz ⟨acc1, m1, hj3, fun r h => Or.inr ⟨t, n1, HT.out, Or.inr ⟨HRP.out, hr r h⟩⟩⟩
    clear hj3 hr hm1
    go_wp2_with fail
    go_loopw [] (fun wr => ∃ acc m, J wr m acc /\ ∀ r, AfterItem E P acc m r -> ListR E P acc0 n r) (fun wr => E.toks.length - posOf wr rb)
    case atStart => exact HI3.out
    case round =>
     obtain ⟨acc, m, hj, hr⟩ := hrel
     have HJ4 := zz hj
     have HR := zz hr
     have HTI := takeIf_tok ⟨#[44]⟩ (by decide) wr (HC.out.rd _ _ _ hj)
     rw [e44] at HTI
     have HI := zz HTI
     clear HTI hj hr
     by_cases hcm : (pk E m).text = tComma
     ·have hv : takeIfV E tComma m = m + 1 := by unfold takeIfV; rw [if_pos hcm]
      rw [hv, decide_eq_true hcm] at HI
      have HCM := zz hcm
      clear hv hcm
      go_wp2_with fail
      refine HI.out.mono ?_
      rintro e w5 ⟨rfl, hr5, hk5⟩
      have HJ5 := zz (HC.out.on _ _ _ _ _ (Nat.le_succ _) HJ4.out hk5 hr5)
      clear hr5 hk5
      go_wp2_with fail
      refine (HC.out.item _ _ _ HJ5.out).mono ?_
      rintro e w6 hit
      rcases hit with ⟨k, a, hp, hth⟩ | ⟨acc1, m1, hm1, rfl, hj6, hr6⟩
      ·have hth2 := hth.after (HC.out.old _ _ _ HJ5.out)
       obtain ⟨b, rfl⟩ := threw_panic hth
       exact ⟨rfl, .bad k a, HR.out _ (Or.inl ⟨HCM.out, hp⟩), hth2⟩
      ·go_wp2_with fail
       refine ⟨⟨acc1, m1, hj6, fun r h => HR.out r (Or.inl ⟨HCM.out, hr6 r h⟩)⟩, ?_⟩
       have h1 := HC.out.rd _ _ _ hj6
       have h2 := HC.out.rd _ _ _ HJ4.out
       rw [h1.pos, h2.pos]
       have := h1.hn
       omega
     ·have hv : takeIfV E tComma m = m := by unfold takeIfV; rw [if_neg hcm]
      rw [hv, decide_eq_false hcm] at HI
      have HCM := zz hcm
      clear hv hcm
      go_wp2_with fail
      refine HI.out.mono ?_
      rintro e w5 ⟨rfl, hr5, hk5⟩
      have HJ5 := zz (HC.out.on _ _ _ _ _ (Nat.le_refl _) HJ4.out hk5 hr5)
      have HT5 := take_tok ⟨#[41]⟩ (by decide) w5 hr5
      rw [e41] at HT5
      have HTT := zz HT5
      clear hr5 hk5 HT5
      go_wp2_with fail
      cases ht2 : take E tRp m with
      | out => exact absurd ht2 (take_ne E _ _)
      | bad k a =>
       rw [ht2] at HTT
       refine HTT.out.mono ?_
       rintro e w6 hth
       have hth2 := Threw.after hth (HC.out.old _ _ _ HJ5.out)
       obtain ⟨b, rfl⟩ := threw_panic hth
       exact ⟨rfl, .bad k a, HR.out _ (Or.inr ⟨HCM.out, by rw [ht2]; rfl⟩), hth2⟩
      | ok t2 m2 =>
       rw [ht2] at HTT
       refine HTT.out.mono ?_
       rintro e w6 ⟨v6, rfl, _, hr6, hk6⟩
       have HJ6 := zz (HC.out.on _ _ _ _ _ (Nat.le_of_lt (take_on ht2)) HJ5.out hk6 hr6)
       have HT2 := zz ht2
       clear hr6 hk6 ht2
       go_wp2_with fail
       go_end0
       exact ⟨.ok acc m2, HR.out _ (Or.inr ⟨HCM.out, by rw [HT2.out]; rfl⟩), rfl, HJ6.out⟩
def ValsIn (W : World) (F : Nat -> Prop) : List Value -> Exs -> Prop
 | [], .nil => True
 | v :: vs, .cons x xs => ExIn W F v x /\ ValsIn W F vs xs
 | _, _ => False
theorem ValsIn.keeps {W W' : World} {F S : Nat -> Prop} (hk : Keeps S W W') (hF : ∀ b, F b -> ¬ S b) : ∀ (vs : List Value) (xs : Exs), ValsIn W F vs xs -> ValsIn W' F vs xs
 | [], .nil, _ => trivial
 | _ :: _, .cons _ _, h => ⟨h.1.keeps hk hF, ValsIn.keeps hk hF _ _ h.2⟩
 | [], .cons _ _, h => h.elim
 | _ :: _, .nil, h => h.elim
theorem ValsIn.mono {W : World} {F G : Nat -> Prop} (hF : ∀ b, b < W.heap.size -> F b -> G b) : ∀ (vs : List Value) (xs : Exs), ValsIn W F vs xs -> ValsIn W G vs xs
 | [], .nil, _ => trivial
 | _ :: _, .cons _ _, h => ⟨ExIn.mono hF _ _ h.1, ValsIn.mono hF _ _ h.2⟩
 | [], .cons _ _, h => h.elim
 | _ :: _, .nil, h => h.elim
theorem ValsIn.snoc {W : World} {F : Nat -> Prop} {v : Value} {x : Ex} (hx : ExIn W F v x) : ∀ (vs : List Value) (xs : Exs), ValsIn W F vs xs -> ValsIn W F (vs ++ [v]) (xs.snoc x)
 | [], .nil, _ => ⟨hx, trivial⟩
 | _ :: _, .cons _ _, h => ⟨h.1, ValsIn.snoc hx _ _ h.2⟩
 | [], .cons _ _, h => h.elim
 | _ :: _, .nil, h => h.elim
theorem ValsIn.len {W : World} {F : Nat -> Prop} : ∀ (vs : List Value) (xs : Exs), ValsIn W F vs xs -> vs.length = xs.len
 | [], .nil, _ => rfl
 | _ :: vs, .cons _ xs, h => congrArg (· + 1) (ValsIn.len vs xs h.2)
 | [], .cons _ _, h => h.elim
 | _ :: _, .nil, h => h.elim
theorem info_exprp : (Tryz.prog.info? 46).map (fun i => (i.zero, i.size, i.bytes)) = some (some (.pointer none), 1, 8) := by kernel_rfl
theorem step_appendP {ops : Array Oper} {o : Oper} {a : Act} {w : World} {K : Act -> World -> Prop} {Q : Exit -> Act -> World -> Prop} {E : Prop}
    (hg : o.guard = none) (s x : Operand) (hop : o.op = Op.call { callee := Callee.builtin Builtin.append, args := #[s, x], argTypes := #[87, 87] })
    (i : TypeInfo) (h2 : Tryz.prog.info? 46 = some i) (h3 : i.zero = some (.pointer none)) (h4 : i.size = 1) (h5 : i.bytes = 8)
    (base : Nat) (v : Value) (n : Nat) (xs : List Value) (hown : w.ownsRow base 46 1 v n xs) (hn : n <= 10000) (hbase : base <= w.heap.size)
    (ad : Addr) (u : Option Addr) (hc : w.cell? ad = some (.pointer u))
    (hs : a.eval s = v) (hx : a.eval x = .slice (some ad) 1 1)
    (hK : ∀ ao' cap' w', w'.ownsRow base 46 1 (.slice ao' (n + 1) cap') (n + 1) (xs ++ [Value.pointer u]) -> w.grownBy w' v.ownBlock -> ((Value.slice ao' (n + 1) cap').ownBlock = v.ownBlock \/ (Value.slice ao' (n + 1) cap').ownBlock = some w.heap.size) -> K (a.put o.dst (.slice ao' (n + 1) cap')) w') :
    if Region.wanted o (yielded ops a.tmps) = true then Oper.wp Tryz.prog o a w K Q else E := by
  have hw : Region.wanted o (yielded ops a.tmps) = true := by simp [Region.wanted, hg]
  rw [if_pos hw]
  obtain ⟨v', w', hrun, r1, r2, _, r4⟩ := run_append_own_at (P := Tryz.prog) w base 87 o.type 46 i (.pointer none) 1 8 Tryz.underlying87 h2 h3 h4 h5 rfl (by decide) v n xs hown ad 1 1 [.pointer u] rfl (fun j u' hj => by
      cases j with
      | zero => simp at hj; subst hj; simpa [Addr.add] using hc
      | succ j => simp at hj)
    (fun u' hu => by simp at hu; subst hu; rfl) (by unfold maxLen; omega) (by omega) hbase
  have hv' : ∃ ao' cap', v' = .slice ao' (n + 1) cap' := by
    rcases r1.2 with ⟨_, h0⟩ | ⟨g, cap', cur, rfl, _⟩
    · omega
    · exact ⟨_, _, rfl⟩
  obtain ⟨ao', cap', rfl⟩ := hv'
  unfold Oper.wp
  simp [execOp, hop, resolve, invoke, builtin, hs, hx, hrun, Result.andThen]
  exact hK _ _ _ r1 r2 r4
structure CallJ (w0 : World) (rb : Nat) (tv : Value) (E : Env) (dep dd : Nat) (xv rv dv xb hb A : Nat) (name : B) (W : World) (m : Nat) (acc : Exs) : Prop where
 rd : RdAt W rb tv E m dep
 env : TEnv rb E W
 kp : Keeps (fun b => b = rb) w0 W
 cx : W.cell? ⟨xv, 0, none⟩ = some (.pointer (some ⟨xb, 0, none⟩))
 cr : W.cell? ⟨rv, 0, none⟩ = some (.pointer (some ⟨rb, 0, none⟩))
 cd : W.cell? ⟨dv, 0, none⟩ = some (.int .i64 (dd : Nat))
 x0 : W.cell? ⟨xb, 0, none⟩ = some (.int .i64 7)
 x1 : W.cell? ⟨xb, 1, none⟩ = some (.int .i64 (A : Nat))
 x2 : W.cell? ⟨xb, 2, none⟩ = some (.int .i64 0)
 x3 : W.cell? ⟨xb, 3, none⟩ = some (.string (mkT name))
 x4 : W.cell? ⟨xb, 4, none⟩ = some (.int .i64 0)
 x5 : W.cell? ⟨xb, 5, none⟩ = some (.pointer none)
 x6 : W.cell? ⟨xb, 6, none⟩ = some (.pointer none)
 z7 : W.frozen? ⟨xb, 7, none⟩ = false
 row : ∃ av vals, W.cell? ⟨xb, 7, none⟩ = some av /\ W.ownsRow hb 46 1 av acc.len vals /\ ValsIn W (fun b => hb <= b /\ some b ≠ av.ownBlock) vals acc /\ (acc.len = 0 -> av = .slice none 0 0)
 lo : rb < w0.heap.size /\ w0.heap.size <= xv /\ w0.heap.size <= rv /\ w0.heap.size <= dv /\ w0.heap.size <= xb
 hi : xv < hb /\ rv < hb /\ dv < hb /\ xb < hb /\ hb <= W.heap.size
 ne : xv ≠ xb /\ rv ≠ xb /\ dv ≠ xb
 al : acc.len <= m
theorem ev_tied_lt {f0 n m : Nat} {x : Ex} (h : Ev (fun f => expr E f f0 n) (.ok x m)) : n < m := ev_tied_on h
structure CallMid (W w2 : World) (rb xv rv dv xb hb dd : Nat) (av : Value) (n : Nat) (vals : List Value) : Prop where
 y1 : w2.cell? ⟨xv, 0, none⟩ = some (.pointer (some ⟨xb, 0, none⟩))
 y2 : w2.cell? ⟨rv, 0, none⟩ = some (.pointer (some ⟨rb, 0, none⟩))
 y3 : w2.cell? ⟨dv, 0, none⟩ = some (.int .i64 (dd : Nat))
 y4 : w2.cell? ⟨xb, 7, none⟩ = some av
 y5 : w2.frozen? ⟨xb, 7, none⟩ = false
 own : w2.ownsRow hb 46 1 av n vals
 hs : hb <= w2.heap.size
theorem callMid {w0 W w2 : World} {dep xv rv dv xb hb A m : Nat} {name : B} {acc : Exs} {av : Value} {vals : List Value} (H : CallJ w0 rb tv E dep dd xv rv dv xb hb A name W m acc) (c7 : W.cell? ⟨xb, 7, none⟩ = some av)
  (hown : W.ownsRow hb 46 1 av acc.len vals) (hk2 : Keeps (fun b => b = rb) W w2) : CallMid W w2 rb xv rv dv xb hb dd av acc.len vals := by
 have hlo := H.lo
 have hhi := H.hi
 have hgb : ∀ b, av.ownBlock = some b -> hb <= b := fun b e => by
  rcases hown.2 with ⟨rfl, _⟩ | ⟨g, cap, cur, rfl, hge, _⟩
  ·cases e
  ·simp only [Value.ownBlock, Option.some.injEq] at e; omega
 refine ⟨hk2.cell_of H.cx (fun e => absurd (show xv = rb from e) (by omega)), hk2.cell_of H.cr (fun e => absurd (show rv = rb from e) (by omega)), hk2.cell_of H.cd (fun e => absurd (show dv = rb from e) (by omega)), hk2.cell_of c7 (fun e => absurd (show xb = rb from e) (by omega)), ?_,
  hk2.row hown (fun b e e2 => absurd (show b = rb from e2) (by have := hgb b e; omega)), Nat.le_trans hhi.2.2.2.2 hk2.size⟩
 rw [hk2.frozen (p := ⟨xb, 7, none⟩) (block_lt_of_cell c7) (fun e => absurd (show xb = rb from e) (by omega))]; exact H.z7
theorem callEnd {w0 W w2 w3 : World} {dep xv rv dv xb hb A m m' cap' : Nat} {name : B} {acc : Exs} {av : Value} {vals : List Value} {x : Ex} {o2 ao' : Option Addr} (H : CallJ w0 rb tv E dep dd xv rv dv xb hb A name W m acc)
  (c7 : W.cell? ⟨xb, 7, none⟩ = some av) (hown : W.ownsRow hb 46 1 av acc.len vals) (hv : ValsIn W (fun b => hb <= b /\ some b ≠ av.ownBlock) vals acc)
  (hm : m < m') (hx : ExV W w2 x (.pointer o2)) (hr2 : RdAt w2 rb tv E m' dep) (hk2 : Keeps (fun b => b = rb) W w2) (hk3 : Keeps (fun b => av.ownBlock = some b) w2 w3)
  (ho3 : w3.ownsRow hb 46 1 (.slice ao' (acc.len + 1) cap') (acc.len + 1) (vals ++ [.pointer o2]))
  (hnew : (Value.slice ao' (acc.len + 1) cap').ownBlock = av.ownBlock \/ (Value.slice ao' (acc.len + 1) cap').ownBlock = some (w2.heap.size + 1)) :
  CallJ w0 rb tv E dep dd xv rv dv xb hb A name (w3.setCell ⟨xb, 7, none⟩ (.slice ao' (acc.len + 1) cap')) m' (acc.snoc x) := by
 have hlo := H.lo
 have hhi := H.hi
 have hne := H.ne
 have hgb : ∀ b, av.ownBlock = some b -> hb <= b := fun b e => by
  rcases hown.2 with ⟨rfl, _⟩ | ⟨g, cap, cur, rfl, hge, _⟩
  ·cases e
  ·simp only [Value.ownBlock, Option.some.injEq] at e; omega
 have hgl : ∀ b, av.ownBlock = some b -> b < W.heap.size := fun b e => by
  rcases hown.2 with ⟨rfl, _⟩ | ⟨g, cap, cur, rfl, _, hg, _⟩
  ·cases e
  ·simp only [Value.ownBlock, Option.some.injEq] at e; subst e; exact (Array.getElem?_eq_some_iff.1 hg).1
 have hgn : ∀ b, (Value.slice ao' (acc.len + 1) cap').ownBlock = some b -> hb <= b := fun b e => by
  rcases hnew with h | h
  ·exact hgb b (h ▸ e)
  ·rw [h] at e
   have h1 : w2.heap.size + 1 = b := Option.some.inj e
   have h2 := hk2.size
   omega
 have ks : Keeps (fun b => b = xb) w3 (w3.setCell ⟨xb, 7, none⟩ (.slice ao' (acc.len + 1) cap')) := (Keeps.refl (fun b : Nat => b = xb) w3).setCell (S := fun b : Nat => b = xb) (p := ⟨xb, 7, none⟩) (Or.inl rfl) _
 have M := callMid H c7 hown hk2
 have no : ∀ b, b < hb -> ¬ av.ownBlock = some b := fun b h e => by have := hgb b e; omega
 have far : ∀ (b o : Nat) (v : Value), b < hb -> b ≠ xb -> w2.cell? ⟨b, o, none⟩ = some v -> (w3.setCell ⟨xb, 7, none⟩ (.slice ao' (acc.len + 1) cap')).cell? ⟨b, o, none⟩ = some v := fun b o v h1 h2 h => ks.cell_of (hk3.cell_of h (no b h1)) h2
 have near : ∀ (o : Nat) (v : Value), o ≠ 7 -> W.cell? ⟨xb, o, none⟩ = some v -> (w3.setCell ⟨xb, 7, none⟩ (.slice ao' (acc.len + 1) cap')).cell? ⟨xb, o, none⟩ = some v := fun o v h h1 => by
  rw [World.cell?_setCell_other _ _ _ _ (off_neq (Ne.symm h) xb)]
  exact hk3.cell_of (hk2.cell_of h1 (fun e => absurd (show xb = rb from e) (by omega))) (no xb (by omega))
 refine ⟨(hr2.keeps hk3 (fun b e => by have := hgb b e; omega)).keeps ks (fun b e => by have : b = xb := e; omega), ((H.env.own hk2).keeps hk3 (fun b e => by have := hgb b e; omega)).keeps ks (fun b e => by have : b = xb := e; omega), ?_, far xv 0 _ (by omega) hne.1 M.y1, far rv 0 _ (by omega) hne.2.1 M.y2, far dv 0 _ (by omega) hne.2.2 M.y3,
  near 0 _ (by decide) H.x0, near 1 _ (by decide) H.x1, near 2 _ (by decide) H.x2, near 3 _ (by decide) H.x3, near 4 _ (by decide) H.x4, near 5 _ (by decide) H.x5, near 6 _ (by decide) H.x6, ?_, ?_, hlo, ?_, hne, ?_⟩
 ·exact ((H.kp.trans hk2).trans' hk3 (fun i h e => by have := hgb i e; omega)).trans' ks (fun i h e => by have : i = xb := e; omega)
 ·rw [World.frozen?_setCell, hk3.frozen (p := ⟨xb, 7, none⟩) (block_lt_of_cell M.y4) (no xb (by omega))]; exact M.y5
 ·refine ⟨_, vals ++ [.pointer o2], World.cell?_setCell_same _ _ _ (hk3.cell_of M.y4 (no xb (by omega))), ?_, ?_, fun e => absurd e (by rw [Exs.len_snoc]; omega)⟩
  ·have h1 := ks.row ho3 (fun b e e2 => by have := hgn b e; have : b = xb := e2; omega)
   rw [Exs.len_snoc]; exact h1
  ·refine ValsIn.snoc ?_ _ _ ?_
   ·have h1 : ExIn w2 (fun b => hb <= b /\ some b ≠ av.ownBlock /\ some b ≠ (Value.slice ao' (acc.len + 1) cap').ownBlock) (.pointer o2) x := ExIn.mono (fun b h e => by
     refine ⟨by have : W.heap.size <= b := e; omega, fun h2 => ?_, fun h2 => ?_⟩
     ·have := hgl b h2.symm; have : W.heap.size <= b := e; omega
     ·rcases hnew with h3 | h3
      ·have := hgl b (by rw [<- h3]; exact h2.symm); have : W.heap.size <= b := e; omega
      ·rw [h3] at h2; have := Option.some.inj h2; omega) _ _ hx
    exact ExIn.mono (fun b _ e => ⟨e.1, e.2.2⟩) _ _ ((h1.keeps hk3 (fun b e e2 => e.2.1 e2.symm)).keeps ks (fun b e e2 => by have : b = xb := e2; omega))
   ·have h1 : ValsIn w2 (fun b => hb <= b /\ some b ≠ av.ownBlock /\ some b ≠ (Value.slice ao' (acc.len + 1) cap').ownBlock) vals acc := ValsIn.mono (fun b h e => by
     refine ⟨e.1, e.2, fun h2 => ?_⟩
     rcases hnew with h3 | h3
     ·exact e.2 (by rw [<- h3]; exact h2)
     ·rw [h3] at h2; have := Option.some.inj h2; omega) _ _ (ValsIn.keeps hk2 (fun b e e2 => by have : b = rb := e2; omega) _ _ hv)
    exact ValsIn.mono (fun b _ e => ⟨e.1, e.2.2⟩) _ _ (ValsIn.keeps ks (fun b e e2 => by have : b = xb := e2; omega) _ _ (ValsIn.keeps hk3 (fun b e e2 => e.2.1 e2.symm) _ _ h1))
 ·have h1 := hk2.size
  have h2 := hk3.size
  have h3 := ks.size
  omega
 ·rw [Exs.len_snoc]; have := H.al; omega
theorem callItem_any {w0 W : World} {dep xv rv dv xb hb A m : Nat} {name : B} {acc : Exs} (hX : ExprC rb tv E dep (dd + 1)) (hdd : dd <= 20) (hJ : CallJ w0 rb tv E dep dd xv rv dv xb hb A name W m acc) :
  Calls Tryz.prog 191 #[.pointer (some ⟨xv, 0, none⟩), .pointer (some ⟨rv, 0, none⟩), .pointer (some ⟨dv, 0, none⟩)] W fun e W' =>
   ∃ r, Ev (fun f => expr E f (dd + 1) m) r /\ match r with
    | .ok x m' => m < m' /\ e = .returned (.tuple #[]) /\ CallJ w0 rb tv E dep dd xv rv dv xb hb A name W' m' (acc.snoc x)
    | .bad k a => Threw W W' rb k a e
    | .out => False := by
 have H := zz hJ
 have HXA := zz hX
 obtain ⟨av, vals, c7, hown, hvals, _⟩ := hJ.row
 have cx := hJ.cx
 have cr := hJ.cr
 have cd := hJ.cd
 have hw : IntKind.i64.wrap ((dd : Int) + 1) = (dd : Int) + 1 := IntWalk.i64_in _ (by omega)
 clear hJ hX
 obtain ⟨i0, hi0, hz0, hz1, hz2⟩ := tinfo info_exprp
 have hlo := H.out.lo
 have hhi := H.out.hi
 have z7 := H.out.z7
 have hl := hown.1
 have hE : Hid (∀ W', Below W.heap.size W W' -> Calls Tryz.prog 174 #[.pointer (some ⟨rb, 0, none⟩), .int .i64 ((dd : Int) + 1)] W' fun e w' => ∃ r, Ev (fun f => expr E f (dd + 1) m) r /\ Says ExV W' w' rb tv E dep r e) := zz fun W' hb => by
  have := HXA.out m W' (H.out.rd.fresh hb) (H.out.env.fresh hb)
  rw [Int.natCast_add] at this
  exact this
 have HOWN := zz hown
 have HV := zz hvals
 clear hown hvals
 go_enter Tryz.func191, Tryz.ntmps191
 go_wp2_with fail
 change Code.wp _ _ (bodyPost _ _ _) _ _
 have hgb : ∀ b, av.ownBlock = some b -> hb <= b := fun b e => by
  rcases HOWN.out.2 with ⟨rfl, _⟩ | ⟨g, cap, cur, rfl, hge, _⟩
  ·cases e
  ·simp only [Value.ownBlock, Option.some.injEq] at e; omega
 have HGB := zz hgb
 clear hgb
 obtain ⟨f1, f2, f3⟩ := H.out.ne
 have g1 : (⟨xb, 7, none⟩ : Addr).block ≠ (⟨xv, 0, none⟩ : Addr).block := fun e => f1 e.symm
 have g2 : (⟨xb, 7, none⟩ : Addr).block ≠ (⟨rv, 0, none⟩ : Addr).block := fun e => f2 e.symm
 have g3 : (⟨xb, 7, none⟩ : Addr).block ≠ (⟨dv, 0, none⟩ : Addr).block := fun e => f3 e.symm
 have hal : acc.len <= 10000 := by have h1 := H.out.al; have h2 := H.out.rd.hn; have h3 := H.out.rd.hl; omega
 have HAL := zz hal
 clear hal
 refine wp_region_held_drew (S := (fun W' : World => W'.cell? ⟨xv, 0, none⟩ = some (.pointer (some ⟨xb, 0, none⟩)) /\ W'.cell? ⟨rv, 0, none⟩ = some (.pointer (some ⟨rb, 0, none⟩)) /\ W'.cell? ⟨dv, 0, none⟩ = some (.int .i64 (dd : Nat)))) (by kernel_rfl) ⟨by simp only [World.cell?_drew]; assumption, by simp only [World.cell?_drew]; assumption, by simp only [World.cell?_drew]; assumption⟩ (fun hHeld => ?_)
 refine tk 0 3 (.pointer (some ⟨xb, 0, none⟩)) rfl (.inl ⟨by rfl, ?_⟩) hHeld ?_
 ·intro W9 hSW; (try dsimp only at hSW); go_simp
 try simp only [Act.put, List.setIfInBounds_toArray, List.set_cons_zero, List.set_cons_succ]
 refine tk 1 4 (.pointer (some ⟨xb, 0, none⟩)) rfl (.inl ⟨by rfl, ?_⟩) hHeld ?_
 ·intro W9 hSW; (try dsimp only at hSW); go_simp
 try simp only [Act.put, List.setIfInBounds_toArray, List.set_cons_zero, List.set_cons_succ]
 refine tk 2 5 (.pointer (some ⟨xb, 0, none⟩)) rfl (.inl ⟨by rfl, ?_⟩) hHeld ?_
 ·intro W9 hSW; (try dsimp only at hSW); go_simp
 try simp only [Act.put, List.setIfInBounds_toArray, List.set_cons_zero, List.set_cons_succ]
 refine tk 3 6 (.pointer (some ⟨xb, 7, none⟩)) rfl (.inl ⟨by rfl, ?_⟩) hHeld ?_
 ·intro W9 hSW; (try dsimp only at hSW); go_simp
 try simp only [Act.put, List.setIfInBounds_toArray, List.set_cons_zero, List.set_cons_succ]
 refine tk 5 8 (.pointer (some ⟨rb, 0, none⟩)) rfl (.inl ⟨by rfl, ?_⟩) hHeld ?_
 ·intro W9 hSW; (try dsimp only at hSW); go_simp
 try simp only [Act.put, List.setIfInBounds_toArray, List.set_cons_zero, List.set_cons_succ]
 refine tk 6 9 (.int .i64 (dd : Nat)) rfl (.inl ⟨by rfl, ?_⟩) hHeld ?_
 ·intro W9 hSW; (try dsimp only at hSW); go_simp
 try simp only [Act.put, List.setIfInBounds_toArray, List.set_cons_zero, List.set_cons_succ]
 refine tk 7 10 (.int .i64 ((dd : Int) + 1)) rfl (.inl ⟨by rfl, ?_⟩) hHeld ?_
 ·intro W9 hSW; (try dsimp only at hSW); go_simp
 try simp only [Act.put, List.setIfInBounds_toArray, List.set_cons_zero, List.set_cons_succ]
 refine wpAnyH_ready (rs := [4, 8]) (by kernel_rfl) (by simp) ?_
 refine AllReadyH.cons (o := { dst := some 7, op := _, type := _, pos := _, after := _, guard := _ }) rfl (fun K hK => ?_) (AllReadyH.cons (o := { dst := some 11, op := _, type := _, pos := _, after := _, guard := _ }) rfl (fun K hK => ?_) AllReadyH.nil)
 ·go_simp
  refine hK.out _ _ hHeld (fun hHeld => ?_)
  clear hK K
  refine wpAnyH_ready (rs := [8]) (by kernel_rfl) (by simp) ?_
  refine AllReadyH.cons (o := { dst := some 11, op := _, type := _, pos := _, after := _, guard := _ }) rfl (fun K hK => ?_) AllReadyH.nil
  go_simp
  go_at_call 174
  refine (hE.out _ (Below.drew (Below.refl _ _))).mono ?_
  rintro e w2 ⟨r, hev, hsay⟩
  rcases r with _ | ⟨k, a⟩ | ⟨x, m'⟩
  ·exact hsay.elim
  ·have hsay' : Threw _ w2 rb k a e := hsay
   obtain ⟨b, rfl⟩ := threw_panic hsay'
   exact ⟨rfl, .bad k a, hev, hsay'.after (Below.drew (Below.refl _ _))⟩
  obtain ⟨v2, rfl, hx, hr2, hk2⟩ := hsay
  obtain ⟨o2, rfl⟩ := ex_ptr hx
  obtain ⟨y1, y2, y3, y4, y5, hown2, hs2⟩ := callMid H.out c7 HOWN.out (w2 := w2) ((Keeps.refl (fun b => b = rb) W).drew.trans hk2)
  have q1 : xv < w2.heap.size := block_lt_of_cell y1
  have q2 : rv < w2.heap.size := block_lt_of_cell y2
  have q3 : dv < w2.heap.size := block_lt_of_cell y3
  have q4 : xb < w2.heap.size := block_lt_of_cell y4
  have HEV := zz hev
  have HXX := zz hx
  have HR2 := zz hr2
  have HK2 := zz hk2
  have HOW2 := zz hown2
  have HS2 := zz hs2
  clear hown2 hs2
  clear hev hx hr2 hk2
  refine hK.out _ _ ⟨y1, y2, y3⟩ (fun hHeld => ?_)
  clear hK K
  refine wpAnyH_ready (rs := [9]) (by kernel_rfl) (by simp) ?_
  refine AllReadyH.cons (o := { dst := some 12, op := _, type := _, pos := _, after := _, guard := _ }) rfl (fun K hK => ?_) AllReadyH.nil
  go_simp
  have z1 : (w2.alloc (.cells #[.pointer o2] 46)).cell? ⟨xv, 0, none⟩ = some (.pointer (some ⟨xb, 0, none⟩)) := by rw [World.cell?_alloc_lt _ _ _ (by assumption)]; assumption
  refine hK.out _ _ ⟨by rw [World.cell?_alloc_lt _ _ _ (by assumption)]; assumption, by rw [World.cell?_alloc_lt _ _ _ (by assumption)]; assumption, by rw [World.cell?_alloc_lt _ _ _ (by assumption)]; assumption⟩ (fun hHeld => ?_)
  clear hK K z1
  refine wpAnyH_ready (rs := [10]) (by kernel_rfl) (by simp) ?_
  refine AllReadyH.cons (o := { dst := some 13, op := _, type := _, pos := _, after := _, guard := _ }) rfl (fun K hK => ?_) AllReadyH.nil
  refine step_appendP rfl (.tmp 7) (.tmp 12) rfl i0 hi0 hz0 hz1 hz2 hb av acc.len vals (World.ownsRow.alloc HOW2.out _) HAL.out (by have := HS2.out; simp; omega) ⟨w2.heap.size, 0, none⟩ o2 (by rw [World.cell?_alloc_at _ _ _ _ rfl]; rfl) (by simp [Act.eval]) (by simp [Act.eval]) ?_
  intro ao' cap' w3 hown3 hgrow3 hnew
  have HNW : Hid ((Value.slice ao' (acc.len + 1) cap').ownBlock = av.ownBlock \/ (Value.slice ao' (acc.len + 1) cap').ownBlock = some (w2.heap.size + 1)) := zz (by simpa using hnew)
  clear hnew
  have hk3 : Keeps (fun b => av.ownBlock = some b) w2 w3 := ((Keeps.refl (fun b => av.ownBlock = some b) w2).alloc _).trans' (Keeps.of_grownBy hgrow3 (fun k _ e => e)) (fun _ _ e => e)
  have hnb : ¬ av.ownBlock = some xb := fun e => by have := HGB.out xb e; omega
  have n1 : ¬ av.ownBlock = some xv := fun e => by have := HGB.out xv e; omega
  have n2 : ¬ av.ownBlock = some rv := fun e => by have := HGB.out rv e; omega
  have n3 : ¬ av.ownBlock = some dv := fun e => by have := HGB.out dv e; omega
  have y8 : w3.cell? ⟨xv, 0, none⟩ = some (.pointer (some ⟨xb, 0, none⟩)) := hk3.cell_of y1 n1
  have y9 : w3.cell? ⟨rv, 0, none⟩ = some (.pointer (some ⟨rb, 0, none⟩)) := hk3.cell_of y2 n2
  have y10 : w3.cell? ⟨dv, 0, none⟩ = some (.int .i64 (dd : Nat)) := hk3.cell_of y3 n3
  clear n1 n2 n3
  have y6 : w3.cell? ⟨xb, 7, none⟩ = some av := hk3.cell_of y4 hnb
  have y7 : w3.frozen? ⟨xb, 7, none⟩ = false := by rw [hk3.frozen (p := ⟨xb, 7, none⟩) q4 hnb]; exact y5
  have HO3 := zz hown3
  have HK3 := zz hk3
  clear hown3 hgrow3 hk3 hnb
  refine hK.out _ _ ⟨y8, y9, y10⟩ (fun hHeld => ?_)
  clear hK K
  try simp only [Act.put, List.setIfInBounds_toArray, List.set_cons_zero, List.set_cons_succ]
  refine tk 11 14 (.pointer (some ⟨xb, 0, none⟩)) rfl (.inl ⟨by rfl, ?_⟩) hHeld ?_
  ·intro W9 hSW; (try dsimp only at hSW); go_simp
  try simp only [Act.put, List.setIfInBounds_toArray, List.set_cons_zero, List.set_cons_succ]
  refine tk 12 15 (.pointer (some ⟨xb, 7, none⟩)) rfl (.inl ⟨by rfl, ?_⟩) hHeld ?_
  ·intro W9 hSW; (try dsimp only at hSW); go_simp
  try simp only [Act.put, List.setIfInBounds_toArray, List.set_cons_zero, List.set_cons_succ]
  refine wpAnyH_ready (rs := [13]) (by kernel_rfl) (by simp) ?_
  refine AllReadyH.cons (o := { dst := none, op := _, type := _, pos := _, after := _, guard := _ }) rfl (fun K hK => ?_) AllReadyH.nil
  go_simp
  refine hK.out _ _ ⟨by rw [World.cell?_setCell_far _ _ _ _ (by assumption)]; assumption, by rw [World.cell?_setCell_far _ _ _ _ (by assumption)]; assumption, by rw [World.cell?_setCell_far _ _ _ _ (by assumption)]; assumption⟩ (fun hHeld => ?_)
  clear hK K
  refine wpAnyH_done (by kernel_rfl) ?_ _
  go_end0
  refine ⟨.ok x m', HEV.out, ev_tied_lt HEV.out, rfl, ?_⟩
  have hkW : Keeps (fun b => b = rb) W w2 := (Keeps.refl (fun b => b = rb) W).drew.trans HK2.out
  exact callEnd H.out c7 HOWN.out HV.out (ev_tied_lt HEV.out) HXX.out HR2.out hkW HK3.out HO3.out HNW.out
 ·go_simp
  go_at_call 174
  refine (hE.out _ (Below.drew (Below.refl _ _))).mono ?_
  rintro e w2 ⟨r, hev, hsay⟩
  rcases r with _ | ⟨k, a⟩ | ⟨x, m'⟩
  ·exact hsay.elim
  ·have hsay' : Threw _ w2 rb k a e := hsay
   obtain ⟨b, rfl⟩ := threw_panic hsay'
   exact ⟨rfl, .bad k a, hev, hsay'.after (Below.drew (Below.refl _ _))⟩
  obtain ⟨v2, rfl, hx, hr2, hk2⟩ := hsay
  obtain ⟨o2, rfl⟩ := ex_ptr hx
  obtain ⟨y1, y2, y3, y4, y5, hown2, hs2⟩ := callMid H.out c7 HOWN.out (w2 := w2) ((Keeps.refl (fun b => b = rb) W).drew.trans hk2)
  have q1 : xv < w2.heap.size := block_lt_of_cell y1
  have q2 : rv < w2.heap.size := block_lt_of_cell y2
  have q3 : dv < w2.heap.size := block_lt_of_cell y3
  have q4 : xb < w2.heap.size := block_lt_of_cell y4
  have HEV := zz hev
  have HXX := zz hx
  have HR2 := zz hr2
  have HK2 := zz hk2
  have HOW2 := zz hown2
  have HS2 := zz hs2
  clear hown2 hs2
  clear hev hx hr2 hk2
  refine hK.out _ _ ⟨y1, y2, y3⟩ (fun hHeld => ?_)
  clear hK K
  refine wpAnyH_ready (rs := [4, 9]) (by kernel_rfl) (by simp) ?_
  refine AllReadyH.cons (o := { dst := some 7, op := _, type := _, pos := _, after := _, guard := _ }) rfl (fun K hK => ?_) (AllReadyH.cons (o := { dst := some 12, op := _, type := _, pos := _, after := _, guard := _ }) rfl (fun K hK => ?_) AllReadyH.nil)
  ·go_simp
   refine hK.out _ _ hHeld (fun hHeld => ?_)
   clear hK K
   refine wpAnyH_ready (rs := [9]) (by kernel_rfl) (by simp) ?_
   refine AllReadyH.cons (o := { dst := some 12, op := _, type := _, pos := _, after := _, guard := _ }) rfl (fun K hK => ?_) AllReadyH.nil
   go_simp
   have z1 : (w2.alloc (.cells #[.pointer o2] 46)).cell? ⟨xv, 0, none⟩ = some (.pointer (some ⟨xb, 0, none⟩)) := by rw [World.cell?_alloc_lt _ _ _ (by assumption)]; assumption
   refine hK.out _ _ ⟨by rw [World.cell?_alloc_lt _ _ _ (by assumption)]; assumption, by rw [World.cell?_alloc_lt _ _ _ (by assumption)]; assumption, by rw [World.cell?_alloc_lt _ _ _ (by assumption)]; assumption⟩ (fun hHeld => ?_)
   clear hK K z1
   refine wpAnyH_ready (rs := [10]) (by kernel_rfl) (by simp) ?_
   refine AllReadyH.cons (o := { dst := some 13, op := _, type := _, pos := _, after := _, guard := _ }) rfl (fun K hK => ?_) AllReadyH.nil
   refine step_appendP rfl (.tmp 7) (.tmp 12) rfl i0 hi0 hz0 hz1 hz2 hb av acc.len vals (World.ownsRow.alloc HOW2.out _) HAL.out (by have := HS2.out; simp; omega) ⟨w2.heap.size, 0, none⟩ o2 (by rw [World.cell?_alloc_at _ _ _ _ rfl]; rfl) (by simp [Act.eval]) (by simp [Act.eval]) ?_
   intro ao' cap' w3 hown3 hgrow3 hnew
   have HNW : Hid ((Value.slice ao' (acc.len + 1) cap').ownBlock = av.ownBlock \/ (Value.slice ao' (acc.len + 1) cap').ownBlock = some (w2.heap.size + 1)) := zz (by simpa using hnew)
   clear hnew
   have hk3 : Keeps (fun b => av.ownBlock = some b) w2 w3 := ((Keeps.refl (fun b => av.ownBlock = some b) w2).alloc _).trans' (Keeps.of_grownBy hgrow3 (fun k _ e => e)) (fun _ _ e => e)
   have hnb : ¬ av.ownBlock = some xb := fun e => by have := HGB.out xb e; omega
   have n1 : ¬ av.ownBlock = some xv := fun e => by have := HGB.out xv e; omega
   have n2 : ¬ av.ownBlock = some rv := fun e => by have := HGB.out rv e; omega
   have n3 : ¬ av.ownBlock = some dv := fun e => by have := HGB.out dv e; omega
   have y8 : w3.cell? ⟨xv, 0, none⟩ = some (.pointer (some ⟨xb, 0, none⟩)) := hk3.cell_of y1 n1
   have y9 : w3.cell? ⟨rv, 0, none⟩ = some (.pointer (some ⟨rb, 0, none⟩)) := hk3.cell_of y2 n2
   have y10 : w3.cell? ⟨dv, 0, none⟩ = some (.int .i64 (dd : Nat)) := hk3.cell_of y3 n3
   clear n1 n2 n3
   have y6 : w3.cell? ⟨xb, 7, none⟩ = some av := hk3.cell_of y4 hnb
   have y7 : w3.frozen? ⟨xb, 7, none⟩ = false := by rw [hk3.frozen (p := ⟨xb, 7, none⟩) q4 hnb]; exact y5
   have HO3 := zz hown3
   have HK3 := zz hk3
   clear hown3 hgrow3 hk3 hnb
   refine hK.out _ _ ⟨y8, y9, y10⟩ (fun hHeld => ?_)
   clear hK K
   try simp only [Act.put, List.setIfInBounds_toArray, List.set_cons_zero, List.set_cons_succ]
   refine tk 11 14 (.pointer (some ⟨xb, 0, none⟩)) rfl (.inl ⟨by rfl, ?_⟩) hHeld ?_
   ·intro W9 hSW; (try dsimp only at hSW); go_simp
   try simp only [Act.put, List.setIfInBounds_toArray, List.set_cons_zero, List.set_cons_succ]
   refine tk 12 15 (.pointer (some ⟨xb, 7, none⟩)) rfl (.inl ⟨by rfl, ?_⟩) hHeld ?_
   ·intro W9 hSW; (try dsimp only at hSW); go_simp
   try simp only [Act.put, List.setIfInBounds_toArray, List.set_cons_zero, List.set_cons_succ]
   refine wpAnyH_ready (rs := [13]) (by kernel_rfl) (by simp) ?_
   refine AllReadyH.cons (o := { dst := none, op := _, type := _, pos := _, after := _, guard := _ }) rfl (fun K hK => ?_) AllReadyH.nil
   go_simp
   refine hK.out _ _ ⟨by rw [World.cell?_setCell_far _ _ _ _ (by assumption)]; assumption, by rw [World.cell?_setCell_far _ _ _ _ (by assumption)]; assumption, by rw [World.cell?_setCell_far _ _ _ _ (by assumption)]; assumption⟩ (fun hHeld => ?_)
   clear hK K
   refine wpAnyH_done (by kernel_rfl) ?_ _
   go_end0
   refine ⟨.ok x m', HEV.out, ev_tied_lt HEV.out, rfl, ?_⟩
   have hkW : Keeps (fun b => b = rb) W w2 := (Keeps.refl (fun b => b = rb) W).drew.trans HK2.out
   exact callEnd H.out c7 HOWN.out HV.out (ev_tied_lt HEV.out) HXX.out HR2.out hkW HK3.out HO3.out HNW.out
  ·go_simp
   have z1 : (w2.alloc (.cells #[.pointer o2] 46)).cell? ⟨xv, 0, none⟩ = some (.pointer (some ⟨xb, 0, none⟩)) := by rw [World.cell?_alloc_lt _ _ _ (by assumption)]; assumption
   refine hK.out _ _ ⟨by rw [World.cell?_alloc_lt _ _ _ (by assumption)]; assumption, by rw [World.cell?_alloc_lt _ _ _ (by assumption)]; assumption, by rw [World.cell?_alloc_lt _ _ _ (by assumption)]; assumption⟩ (fun hHeld => ?_)
   clear hK K z1
   refine wpAnyH_ready (rs := [4]) (by kernel_rfl) (by simp) ?_
   refine AllReadyH.cons (o := { dst := some 7, op := _, type := _, pos := _, after := _, guard := _ }) rfl (fun K hK => ?_) AllReadyH.nil
   go_simp
   refine hK.out _ _ hHeld (fun hHeld => ?_)
   clear hK K
   refine wpAnyH_ready (rs := [10]) (by kernel_rfl) (by simp) ?_
   refine AllReadyH.cons (o := { dst := some 13, op := _, type := _, pos := _, after := _, guard := _ }) rfl (fun K hK => ?_) AllReadyH.nil
   refine step_appendP rfl (.tmp 7) (.tmp 12) rfl i0 hi0 hz0 hz1 hz2 hb av acc.len vals (World.ownsRow.alloc HOW2.out _) HAL.out (by have := HS2.out; simp; omega) ⟨w2.heap.size, 0, none⟩ o2 (by rw [World.cell?_alloc_at _ _ _ _ rfl]; rfl) (by simp [Act.eval]) (by simp [Act.eval]) ?_
   intro ao' cap' w3 hown3 hgrow3 hnew
   have HNW : Hid ((Value.slice ao' (acc.len + 1) cap').ownBlock = av.ownBlock \/ (Value.slice ao' (acc.len + 1) cap').ownBlock = some (w2.heap.size + 1)) := zz (by simpa using hnew)
   clear hnew
   have hk3 : Keeps (fun b => av.ownBlock = some b) w2 w3 := ((Keeps.refl (fun b => av.ownBlock = some b) w2).alloc _).trans' (Keeps.of_grownBy hgrow3 (fun k _ e => e)) (fun _ _ e => e)
   have hnb : ¬ av.ownBlock = some xb := fun e => by have := HGB.out xb e; omega
   have n1 : ¬ av.ownBlock = some xv := fun e => by have := HGB.out xv e; omega
   have n2 : ¬ av.ownBlock = some rv := fun e => by have := HGB.out rv e; omega
   have n3 : ¬ av.ownBlock = some dv := fun e => by have := HGB.out dv e; omega
   have y8 : w3.cell? ⟨xv, 0, none⟩ = some (.pointer (some ⟨xb, 0, none⟩)) := hk3.cell_of y1 n1
   have y9 : w3.cell? ⟨rv, 0, none⟩ = some (.pointer (some ⟨rb, 0, none⟩)) := hk3.cell_of y2 n2
   have y10 : w3.cell? ⟨dv, 0, none⟩ = some (.int .i64 (dd : Nat)) := hk3.cell_of y3 n3
   clear n1 n2 n3
   have y6 : w3.cell? ⟨xb, 7, none⟩ = some av := hk3.cell_of y4 hnb
   have y7 : w3.frozen? ⟨xb, 7, none⟩ = false := by rw [hk3.frozen (p := ⟨xb, 7, none⟩) q4 hnb]; exact y5
   have HO3 := zz hown3
   have HK3 := zz hk3
   clear hown3 hgrow3 hk3 hnb
   refine hK.out _ _ ⟨y8, y9, y10⟩ (fun hHeld => ?_)
   clear hK K
   try simp only [Act.put, List.setIfInBounds_toArray, List.set_cons_zero, List.set_cons_succ]
   refine tk 11 14 (.pointer (some ⟨xb, 0, none⟩)) rfl (.inl ⟨by rfl, ?_⟩) hHeld ?_
   ·intro W9 hSW; (try dsimp only at hSW); go_simp
   try simp only [Act.put, List.setIfInBounds_toArray, List.set_cons_zero, List.set_cons_succ]
   refine tk 12 15 (.pointer (some ⟨xb, 7, none⟩)) rfl (.inl ⟨by rfl, ?_⟩) hHeld ?_
   ·intro W9 hSW; (try dsimp only at hSW); go_simp
   try simp only [Act.put, List.setIfInBounds_toArray, List.set_cons_zero, List.set_cons_succ]
   refine wpAnyH_ready (rs := [13]) (by kernel_rfl) (by simp) ?_
   refine AllReadyH.cons (o := { dst := none, op := _, type := _, pos := _, after := _, guard := _ }) rfl (fun K hK => ?_) AllReadyH.nil
   go_simp
   refine hK.out _ _ ⟨by rw [World.cell?_setCell_far _ _ _ _ (by assumption)]; assumption, by rw [World.cell?_setCell_far _ _ _ _ (by assumption)]; assumption, by rw [World.cell?_setCell_far _ _ _ _ (by assumption)]; assumption⟩ (fun hHeld => ?_)
   clear hK K
   refine wpAnyH_done (by kernel_rfl) ?_ _
   go_end0
   refine ⟨.ok x m', HEV.out, ev_tied_lt HEV.out, rfl, ?_⟩
   have hkW : Keeps (fun b => b = rb) W w2 := (Keeps.refl (fun b => b = rb) W).drew.trans HK2.out
   exact callEnd H.out c7 HOWN.out HV.out (ev_tied_lt HEV.out) HXX.out HR2.out hkW HK3.out HO3.out HNW.out
theorem below_of_two {S : Nat -> Prop} {a : World} {B : Nat} (h1 : Keeps S a w) (h2 : Keeps S a w') (hs : w.heap.size <= w'.heap.size) (hB : B <= a.heap.size) (hS : ∀ b, S b -> B <= b) : Below B w w' :=
 ⟨h2.os.trans h1.os.symm, h2.tape.trans h1.tape.symm, h2.output.trans h1.output.symm, hs, fun k hk => by
  have hn : ¬ S k := fun e => by have := hS k e; omega
  rw [h2.block k (by omega) hn, h1.block k (by omega) hn]⟩
theorem exs_of_vals {W : World} {F : Nat -> Prop} {g : Nat} : ∀ (vals : List Value) (xs : Exs) (i : Nat), (∀ j v, vals[j]? = some v -> W.cell? ⟨g, i + j, none⟩ = some v) -> ValsIn W F vals xs -> ExsIn W F g i xs
 | [], .nil, _, _, _ => trivial
 | v :: vs, .cons x xs, i, hc, h => ⟨⟨v, hc 0 v rfl, h.1⟩, exs_of_vals vs xs (i + 1) (fun j u hj => by rw [Nat.add_assoc, Nat.add_comm 1 j]; exact hc (j + 1) u hj) h.2⟩
 | [], .cons _ _, _, _, h => h.elim
 | _ :: _, .nil, _, _, h => h.elim
theorem cell_more {p : Addr} {v : Value} {o : Obj} (h : w.cell? p = some v) : (w.alloc o).cell? p = some v := by
 rw [World.cell?_alloc_lt _ _ _ (block_lt_of_cell h)]; exact h
theorem frozen_more {p : Addr} {o : Obj} (hp : p.block < w.heap.size) (h : w.frozen? p = false) : (w.alloc o).frozen? p = false := by
 rw [((Keeps.refl (fun _ => False) w).alloc o).frozen hp id]; exact h
theorem cell_new (w : World) (xs : Array Value) (t : TypeId) (j : Nat) (v : Value) (h : xs[j]? = some v) {b : Nat} (hb : b = w.heap.size) : (w.alloc (.cells xs t)).cell? ⟨b, j, none⟩ = some v := by
 subst hb; rw [World.cell?_alloc_at _ _ _ _ rfl]; exact h
theorem callStart {dep : Nat} {t1 t2 t3 t4 t5 : TypeId} {name : B} {A : Nat} {k : Value} (h : RdAt w rb tv E n dep) (hE : TEnv rb E w) :
  CallJ w rb tv E dep dd (w.heap.size + 1 + 1 + 1 + 1) w.heap.size (w.heap.size + 1 + 1) (w.heap.size + 1 + 1 + 1) (w.heap.size + 1 + 1 + 1 + 1 + 1) A name
   (((((w.alloc (.cells #[.pointer (some ⟨rb, 0, none⟩)] t1)).alloc (.cells #[k, .string (mkT name), .int .i64 A] t2)).alloc (.cells #[.int .i64 (dd : Nat)] t3)).alloc (.cells #[.int .i64 7, .int .i64 A, .int .i64 0, .string (mkT name), .int .i64 0, .pointer none, .pointer none, .slice none 0 0] t4)).alloc (.cells #[.pointer (some ⟨w.heap.size + 1 + 1 + 1, 0, none⟩)] t5)) n .nil := by
 have hk : Keeps (fun b => b = rb) w (((((w.alloc (.cells #[.pointer (some ⟨rb, 0, none⟩)] t1)).alloc (.cells #[k, .string (mkT name), .int .i64 A] t2)).alloc (.cells #[.int .i64 (dd : Nat)] t3)).alloc (.cells #[.int .i64 7, .int .i64 A, .int .i64 0, .string (mkT name), .int .i64 0, .pointer none, .pointer none, .slice none 0 0] t4)).alloc (.cells #[.pointer (some ⟨w.heap.size + 1 + 1 + 1, 0, none⟩)] t5)) := (((((Keeps.refl (fun b => b = rb) w).alloc _).alloc _).alloc _).alloc _).alloc _
 have hn : Below w.heap.size w (((((w.alloc (.cells #[.pointer (some ⟨rb, 0, none⟩)] t1)).alloc (.cells #[k, .string (mkT name), .int .i64 A] t2)).alloc (.cells #[.int .i64 (dd : Nat)] t3)).alloc (.cells #[.int .i64 7, .int .i64 A, .int .i64 0, .string (mkT name), .int .i64 0, .pointer none, .pointer none, .slice none 0 0] t4)).alloc (.cells #[.pointer (some ⟨w.heap.size + 1 + 1 + 1, 0, none⟩)] t5)) :=
  (((((Keeps.refl (fun _ => False) w).alloc _).alloc _).alloc _).alloc _).alloc _ |>.below (Nat.le_refl _) (fun _ _ e => e.elim)
 have hx : ∀ (j : Nat) (v : Value), (#[Value.int .i64 7, .int .i64 A, .int .i64 0, .string (mkT name), .int .i64 0, .pointer none, .pointer none, .slice none 0 0] : Array Value)[j]? = some v -> (((((w.alloc (.cells #[.pointer (some ⟨rb, 0, none⟩)] t1)).alloc (.cells #[k, .string (mkT name), .int .i64 A] t2)).alloc (.cells #[.int .i64 (dd : Nat)] t3)).alloc (.cells #[.int .i64 7, .int .i64 A, .int .i64 0, .string (mkT name), .int .i64 0, .pointer none, .pointer none, .slice none 0 0] t4)).alloc (.cells #[.pointer (some ⟨w.heap.size + 1 + 1 + 1, 0, none⟩)] t5)).cell? ⟨w.heap.size + 1 + 1 + 1, j, none⟩ = some v := fun j v hj => cell_more (cell_new _ _ _ j v hj (by simp))
 have hlt := h.lt
 refine ⟨h.fresh hn, hE.fresh hn, hk, cell_new _ _ _ 0 _ rfl (by simp), cell_more (cell_more (cell_more (cell_more (cell_new _ _ _ 0 _ rfl rfl)))), cell_more (cell_more (cell_new _ _ _ 0 _ rfl (by simp))), hx 0 _ rfl, hx 1 _ rfl, hx 2 _ rfl, hx 3 _ rfl, hx 4 _ rfl, hx 5 _ rfl, hx 6 _ rfl, ?_, ⟨_, [], hx 7 _ rfl, World.ownsRow_nil _ _ _ _, trivial, fun _ => rfl⟩, ⟨hlt, by omega, by omega, by omega, by omega⟩, ?_, ⟨by omega, by omega, by omega⟩, Nat.zero_le _⟩
 ·refine frozen_more (by simp) ?_
  exact World.frozen?_alloc_at _ _ _ _ (by simp)
 ·refine ⟨by omega, by omega, by omega, by omega, by simp⟩
theorem call_ev {t : Tok} {r : Res Exs} (hr : r ≠ .out) (h : ListR E (fun acc m r => Ev (fun f => args E f dd acc m) r) .nil n r) : Ev (fun f => Tr.call E f dd t n) (r.bind fun l m => .ok (.mk 7 t.at_ 0 0 t.text .nil .nil l) m) := by
 rcases h with ⟨k, a, h1, rfl⟩ | ⟨t1, n1, h1, ⟨h2, rfl⟩ | ⟨h2, h3⟩⟩
 ·exact Ev.now (fun e => by cases e) fun f => by rw [call_eq, h1]; rfl
 ·exact Ev.now (fun e => by cases e) fun f => by rw [call_eq, h1]; show (if _ then _ else _) = _; rw [if_pos h2]; rfl
 ·refine Ev.step (h := fun f => (args E f dd .nil n1).bind fun l n2 => .ok (.mk 7 t.at_ 0 0 t.text .nil .nil l) n2) (fun f => by rw [call_eq, h1]; show (if _ then _ else _) = _; rw [if_neg h2]) ?_
  cases r with
  | out => exact absurd rfl hr
  | bad k a => exact Ev.bad h3
  | ok l m => exact Ev.then h3 (Ev.pure (fun e => by cases e) fun _ => rfl)
theorem callItems {w0 : World} {dep xv rv dv xb A : Nat} {name : B} (hX : ExprC rb tv E dep (dd + 1)) (hdd : dd <= 20) (hk : Keeps (fun b => b = rb) w0 w) (hlt : rb < w0.heap.size) :
  ItemC w rb tv E dep 191 #[.pointer (some ⟨xv, 0, none⟩), .pointer (some ⟨rv, 0, none⟩), .pointer (some ⟨dv, 0, none⟩)]
   (fun W m acc => CallJ w0 rb tv E dep dd xv rv dv xb w.heap.size A name W m acc) (fun acc m r => Ev (fun f => args E f dd acc m) r) := by
 refine ⟨fun W m acc h => h.rd, ?_, ?_, ?_⟩
 ·intro W W' m m' acc hm h hk2 hr2
  have hlo := h.lo
  have hhi := h.hi
  have hne := h.ne
  obtain ⟨av, vals, c7, hown, hvals, h0⟩ := h.row
  have M := callMid h c7 hown hk2
  have hx : ∀ (j : Nat) (v : Value), W.cell? ⟨xb, j, none⟩ = some v -> W'.cell? ⟨xb, j, none⟩ = some v := fun j v hv => hk2.cell_of hv (fun e => absurd (show xb = rb from e) (by omega))
  exact ⟨hr2, h.env.own hk2, h.kp.trans hk2, M.y1, M.y2, M.y3, hx 0 _ h.x0, hx 1 _ h.x1, hx 2 _ h.x2, hx 3 _ h.x3, hx 4 _ h.x4, hx 5 _ h.x5, hx 6 _ h.x6, M.y5, ⟨av, vals, M.y4, M.own, ValsIn.keeps hk2 (fun b e e2 => by have : b = rb := e2; omega) _ _ hvals, h0⟩, hlo, ⟨hhi.1, hhi.2.1, hhi.2.2.1, hhi.2.2.2.1, M.hs⟩, hne, Nat.le_trans h.al hm⟩
 ·intro W m acc h
  exact below_of_two hk h.kp h.hi.2.2.2.2 (Nat.le_of_lt hlt) (fun b e => Nat.le_of_eq (show rb = b from e.symm))
 ·intro W m acc h
  refine (callItem_any hX hdd h).mono ?_
  rintro e W' ⟨r, hev, hsay⟩
  cases r with
  | out => exact hsay.elim
  | bad k a => exact Or.inl ⟨k, a, Ev.step (h := fun f => (tied E f 1 (dd + 1) m).bind fun x m => if (pk E m).text = tComma then args E f dd (acc.snoc x) (m + 1) else (take E tRp m).bind fun _ m2 => .ok (acc.snoc x) m2) (fun f => by rw [args_eq]) (Ev.bad hev), hsay⟩
  | ok x m' =>
   obtain ⟨h1, h2, h3⟩ := hsay
   refine Or.inr ⟨_, m', h1, h2, h3, fun r hr => Ev.step (h := fun f => (tied E f 1 (dd + 1) m).bind fun x m => if (pk E m).text = tComma then args E f dd (acc.snoc x) (m + 1) else (take E tRp m).bind fun _ m2 => .ok (acc.snoc x) m2) (fun f => by rw [args_eq]) (Ev.then hev ?_)⟩
   rcases hr with ⟨h4, h5⟩ | ⟨h4, rfl⟩
   ·simp only [if_pos h4]; exact h5
   ·simp only [if_neg h4]
    refine Ev.pure ?_ (fun _ => rfl)
    cases hq : take E tRp m' with
    | out => exact absurd hq (take_ne E _ _)
    | bad k a => intro e; cases e
    | ok t n => intro e; cases e
theorem CallJ.ex {w0 : World} {dep xv rv dv xb hb A m : Nat} {name : B} {acc : Exs} (h : CallJ w0 rb tv E dep dd xv rv dv xb hb A name w m acc) : ExV w0 w (.mk 7 A 0 0 name .nil .nil acc) (.pointer (some ⟨xb, 0, none⟩)) := by
 obtain ⟨av, vals, c7, hown, hvals, h0⟩ := h.row
 have hlo := h.lo
 have hhi := h.hi
 have hF : ∀ b, hb <= b /\ some b ≠ av.ownBlock -> w0.heap.size <= b := fun b e => by omega
 refine ⟨xb, .pointer none, .pointer none, av, rfl, hlo.2.2.2.2, h.x0, h.x1, h.x2, h.x3, h.x4, h.x5, h.x6, c7, rfl, rfl, ?_, ?_⟩
 ·by_cases hz : acc.len = 0
  ·exact Or.inl ⟨h0 hz, hz⟩
  ·rcases hown.2 with ⟨_, e⟩ | ⟨g, cap, cur, e1, h2, _, h3, h4, _⟩
   ·exact absurd e hz
   ·exact Or.inr ⟨g, cap, e1, h3, h4, Nat.pos_of_ne_zero hz, by show w0.heap.size <= g; omega⟩
 ·intro g m' cap e
  rcases hown.2 with ⟨e2, _⟩ | ⟨g', cap', cur, e2, h2, _⟩
  ·rw [e] at e2; cases e2
  ·rw [e] at e2
   cases e2
   subst e
   refine exs_of_vals vals acc 0 (fun j v hj => ?_) (ValsIn.mono (fun b _ hb => hF b hb) _ _ hvals)
   rw [Nat.zero_add, World.ownsRow.cellAt hown j (by have := (List.getElem?_eq_some_iff.1 hj).1; have := hown.1; omega)]
   exact hj
theorem call_any {dep : Nat} (hX : ExprC rb tv E dep (dd + 1)) (hdd : dd <= 20) : CallC rb tv E dep dd := by
 intro t n w h hE
 have HST := zz (callStart (dd := dd) (t1 := 109) (t2 := 100) (t3 := 3) (t4 := 89) (t5 := 46) (name := t.text) (A := t.at_) (k := .int .i64 t.kind) h hE)
 have HLT := zz h.lt
 have HX := zz hX
 unfold tokV
 clear h hE hX
 go_enter Tryz.func175, Tryz.ntmps175
 generalize hT : mkT t.text = T at *
 go_wp2_with fail
 subst hT
 refine (list_call (callItems (w0 := w) (xb := w.heap.size + 1 + 1 + 1) (A := t.at_) (name := t.text) HX.out hdd HST.out.kp HLT.out) .nil (by simpa using HST.out)).mono ?_
 rintro e w2 ⟨r, hl, hsay⟩
 cases r with
 | out => exact hsay.elim
 | bad k a =>
  have hsay' : Threw _ w2 rb k a e := hsay
  have HEV := zz (call_ev (t := t) (fun e => by cases e) hl)
  obtain ⟨b, rfl⟩ := threw_panic hsay'
  exact ⟨rfl, _, HEV.out, hsay'.own HLT.out HST.out.kp⟩
 | ok acc m =>
  obtain ⟨rfl, hj⟩ := hsay
  have HEV := zz (call_ev (t := t) (fun e => by cases e) hl)
  have cx := hj.cx
  have HJ := zz hj
  clear hl hj
  go_wp2_with fail
  go_ret
  exact ⟨_, HEV.out, _, rfl, HJ.out.ex, HJ.out.rd, HJ.out.kp⟩
structure ExB (w : World) (b c A N op : Nat) (lv : Value) : Prop where
 c0 : w.cell? ⟨b, 0, none⟩ = some (.int .i64 (c : Nat))
 c1 : w.cell? ⟨b, 1, none⟩ = some (.int .i64 (A : Nat))
 c2 : w.cell? ⟨b, 2, none⟩ = some (.int .i64 (N : Nat))
 c3 : w.cell? ⟨b, 3, none⟩ = some (.string (mkT []))
 c4 : w.cell? ⟨b, 4, none⟩ = some (.int .i64 (op : Nat))
 c5 : w.cell? ⟨b, 5, none⟩ = some lv
 c6 : w.cell? ⟨b, 6, none⟩ = some (.pointer none)
 c7 : w.cell? ⟨b, 7, none⟩ = some (.slice none 0 0)
 z : ∀ j, w.frozen? ⟨b, j, none⟩ = false
theorem exB_new (w : World) (A : Nat) (t : TypeId) : ExB (w.alloc (.cells #[.int .i64 0, .int .i64 A, .int .i64 0, .string (mkT []), .int .i64 0, .pointer none, .pointer none, .slice none 0 0] t)) w.heap.size 0 A 0 0 (.pointer none) := by
  have hc : ∀ (j : Nat) (v : Value), (#[Value.int .i64 0, .int .i64 A, .int .i64 0, .string (mkT []), .int .i64 0, .pointer none, .pointer none, .slice none 0 0] : Array Value)[j]? = some v ->
      (w.alloc (.cells #[.int .i64 0, .int .i64 A, .int .i64 0, .string (mkT []), .int .i64 0, .pointer none, .pointer none, .slice none 0 0] t)).cell? ⟨w.heap.size, j, none⟩ = some v := fun j v h => by
    rw [World.cell?_alloc_at _ _ _ _ rfl]; exact h
  exact ⟨hc 0 _ rfl, hc 1 _ rfl, hc 2 _ rfl, hc 3 _ rfl, hc 4 _ rfl, hc 5 _ rfl, hc 6 _ rfl, hc 7 _ rfl, fun j => World.frozen?_alloc_new w _ _ _⟩
theorem ExB.keeps {S : Nat -> Prop} {b c A N op : Nat} {lv : Value} (h : ExB w b c A N op lv) (hk : Keeps S w w') (hs : ¬ S b) : ExB w' b c A N op lv :=
 ⟨hk.cell_of h.c0 hs, hk.cell_of h.c1 hs, hk.cell_of h.c2 hs, hk.cell_of h.c3 hs, hk.cell_of h.c4 hs, hk.cell_of h.c5 hs, hk.cell_of h.c6 hs, hk.cell_of h.c7 hs, fun j => by rw [hk.frozen (p := ⟨b, j, none⟩) (show b < w.heap.size from block_lt_of_cell h.c0) hs]; exact h.z j⟩
theorem ExB.set0 {b c A N op : Nat} {lv : Value} (h : ExB w b c A N op lv) (c2 : Nat) : ExB (w.setCell ⟨b, 0, none⟩ (.int .i64 (c2 : Nat))) b c2 A N op lv :=
 ⟨World.cell?_setCell_same _ _ _ h.c0, by rw [World.cell?_setCell_other _ _ _ _ (off_neq (by decide) b)]; exact h.c1, by rw [World.cell?_setCell_other _ _ _ _ (off_neq (by decide) b)]; exact h.c2, by rw [World.cell?_setCell_other _ _ _ _ (off_neq (by decide) b)]; exact h.c3, by rw [World.cell?_setCell_other _ _ _ _ (off_neq (by decide) b)]; exact h.c4, by rw [World.cell?_setCell_other _ _ _ _ (off_neq (by decide) b)]; exact h.c5, by rw [World.cell?_setCell_other _ _ _ _ (off_neq (by decide) b)]; exact h.c6, by rw [World.cell?_setCell_other _ _ _ _ (off_neq (by decide) b)]; exact h.c7, fun j => by rw [World.frozen?_setCell]; exact h.z j⟩
theorem ExB.set2 {b c A N op : Nat} {lv : Value} (h : ExB w b c A N op lv) (N2 : Nat) : ExB (w.setCell ⟨b, 2, none⟩ (.int .i64 (N2 : Nat))) b c A N2 op lv :=
 ⟨by rw [World.cell?_setCell_other _ _ _ _ (off_neq (by decide) b)]; exact h.c0, by rw [World.cell?_setCell_other _ _ _ _ (off_neq (by decide) b)]; exact h.c1, World.cell?_setCell_same _ _ _ h.c2, by rw [World.cell?_setCell_other _ _ _ _ (off_neq (by decide) b)]; exact h.c3, by rw [World.cell?_setCell_other _ _ _ _ (off_neq (by decide) b)]; exact h.c4, by rw [World.cell?_setCell_other _ _ _ _ (off_neq (by decide) b)]; exact h.c5, by rw [World.cell?_setCell_other _ _ _ _ (off_neq (by decide) b)]; exact h.c6, by rw [World.cell?_setCell_other _ _ _ _ (off_neq (by decide) b)]; exact h.c7, fun j => by rw [World.frozen?_setCell]; exact h.z j⟩
theorem ExB.set4 {b c A N op : Nat} {lv : Value} (h : ExB w b c A N op lv) (o2 : Nat) : ExB (w.setCell ⟨b, 4, none⟩ (.int .i64 (o2 : Nat))) b c A N o2 lv :=
 ⟨by rw [World.cell?_setCell_other _ _ _ _ (off_neq (by decide) b)]; exact h.c0, by rw [World.cell?_setCell_other _ _ _ _ (off_neq (by decide) b)]; exact h.c1, by rw [World.cell?_setCell_other _ _ _ _ (off_neq (by decide) b)]; exact h.c2, by rw [World.cell?_setCell_other _ _ _ _ (off_neq (by decide) b)]; exact h.c3, World.cell?_setCell_same _ _ _ h.c4, by rw [World.cell?_setCell_other _ _ _ _ (off_neq (by decide) b)]; exact h.c5, by rw [World.cell?_setCell_other _ _ _ _ (off_neq (by decide) b)]; exact h.c6, by rw [World.cell?_setCell_other _ _ _ _ (off_neq (by decide) b)]; exact h.c7, fun j => by rw [World.frozen?_setCell]; exact h.z j⟩
theorem ExB.set5 {b c A N op : Nat} {lv : Value} (h : ExB w b c A N op lv) (l2 : Value) : ExB (w.setCell ⟨b, 5, none⟩ l2) b c A N op l2 :=
 ⟨by rw [World.cell?_setCell_other _ _ _ _ (off_neq (by decide) b)]; exact h.c0, by rw [World.cell?_setCell_other _ _ _ _ (off_neq (by decide) b)]; exact h.c1, by rw [World.cell?_setCell_other _ _ _ _ (off_neq (by decide) b)]; exact h.c2, by rw [World.cell?_setCell_other _ _ _ _ (off_neq (by decide) b)]; exact h.c3, by rw [World.cell?_setCell_other _ _ _ _ (off_neq (by decide) b)]; exact h.c4, World.cell?_setCell_same _ _ _ h.c5, by rw [World.cell?_setCell_other _ _ _ _ (off_neq (by decide) b)]; exact h.c6, by rw [World.cell?_setCell_other _ _ _ _ (off_neq (by decide) b)]; exact h.c7, fun j => by rw [World.frozen?_setCell]; exact h.z j⟩
theorem ExB.ex {F : Nat -> Prop} {b c A N op : Nat} {lv : Value} {l : Ex} (h : ExB w b c A N op lv) (hF : F b) (hl : ExIn w F lv l) : ExIn w F (.pointer (some ⟨b, 0, none⟩)) (.mk c A N op [] l .nil .nil) :=
 ⟨b, lv, .pointer none, .slice none 0 0, rfl, hF, h.c0, h.c1, h.c2, h.c3, h.c4, h.c5, h.c6, h.c7, hl, rfl, Or.inl ⟨rfl, rfl⟩, fun g m cap e => by cases e⟩
theorem below2 (hb : Below w.heap.size w w') (o1 o2 : Obj) : Below w.heap.size w ((w'.alloc o1).alloc o2) := (hb.alloc hb.size _).alloc (Nat.le_trans hb.size (by simp)) _
theorem begun2 (w : World) (K A : Nat) (T : ByteArray) (t1 t2 : TypeId) : ExB ((w.alloc (.cells #[.int .i64 K, .string T, .int .i64 A] t1)).alloc (.cells #[.int .i64 0, .int .i64 A, .int .i64 0, .string (mkT []), .int .i64 0, .pointer none, .pointer none, .slice none 0 0] t2)) (w.heap.size + 1) 0 A 0 0 (.pointer none) ∧
  ((w.alloc (.cells #[.int .i64 K, .string T, .int .i64 A] t1)).alloc (.cells #[.int .i64 0, .int .i64 A, .int .i64 0, .string (mkT []), .int .i64 0, .pointer none, .pointer none, .slice none 0 0] t2)).cell? ⟨w.heap.size, 1, none⟩ = some (.string T) := by
 refine ⟨?_, ?_⟩
 ·have h := exB_new (w.alloc (.cells #[.int .i64 K, .string T, .int .i64 A] t1)) A t2
  rw [show (w.alloc (.cells #[.int .i64 K, .string T, .int .i64 A] t1)).heap.size = w.heap.size + 1 by simp] at h
  exact h
 ·exact cell_more (cell_new _ _ _ 1 _ rfl rfl)
theorem Ev.map {α β : Type} {g : Nat -> Res α} {r : Res α} (k : α -> Nat -> Res β) (hk : ∀ x m, k x m ≠ .out) (h : Ev g r) : Ev (fun f => (g f).bind k) (r.bind k) := by
 cases r with
 | out => exact absurd rfl h.1
 | bad a b => exact Ev.bad h
 | ok x m => exact Ev.then h (Ev.pure (hk x m) fun _ => rfl)
theorem peeks {dep : Nat} (h : RdAt w rb tv E n dep) (W : World) (hb : Below w.heap.size w W) : Calls Tryz.prog 88 #[.pointer (some ⟨rb, 0, none⟩)] W fun e w' => e = .returned (tokV (pk E n)) /\ Below w.heap.size w w' :=
 (peek_any W (h.fresh hb)).mono fun _ _ ⟨h1, h2⟩ => ⟨h1, hb.trans (h2.mono hb.size)⟩
theorem rone_true {dep : Nat} (hd : dd <= 12) (w : World) (h : RdAt w rb tv E n dep) (hE : TEnv rb E w) (k3 : (pk E n).kind ≠ 3) (k1 : (pk E n).kind ≠ 1) (ht : (pk E n).text = tTrue) : Calls Tryz.prog 195 #[.pointer (some ⟨rb, 0, none⟩), .int .i64 (dd : Nat)] w fun e w' =>
  ∃ r, Ev (fun f => Tr.one E f dd n) r /\ Says ExV w w' rb tv E dep r e := by
 have HP := zz (peeks h)
 have H0 := zz h
 have HE := zz hE
 have hn := pk_lt ht (by decide)
 have HSK : Hid (∀ W, RdAt W rb tv E n dep -> Calls Tryz.prog 94 #[.pointer (some ⟨rb, 0, none⟩)] W fun e w' => e = .returned (tokV (pk E n)) /\ RdAt w' rb tv E (n + 1) dep /\ Keeps (fun b => b = rb) W w') := zz fun W hW => skip_tok W hW hn
 have HEV : Hid (Ev (fun f => Tr.one E f dd n) (.ok (leaf 2 (pk E n).at_ 1 []) (n + 1))) := zz (Ev.now (fun e => by cases e) fun f => by rw [one_eq, if_neg (by omega), if_neg k3, if_neg k1, ht]; rfl)
 have hi : (dd : Int) <= 12 := by omega
 have hw : IntKind.i64.wrap ((dd : Int) + 1) = (dd : Int) + 1 := IntWalk.i64_in _ (by omega)
 have i3 : ¬ ((pk E n).kind : Int) = 3 := by omega
 have i1 : ¬ ((pk E n).kind : Int) = 1 := by omega
 unfold tokV at HP HSK
 rw [ht] at HP HSK
 obtain ⟨T, hT⟩ : ∃ T, T = mkT tTrue := ⟨_, rfl⟩
 rw [<- hT] at HP HSK
 have b0 : (T.toList == [40]) = false := by rw [hT, Lib.toList_data]; rfl
 have b1 : (T.toList == [45]) = false := by rw [hT, Lib.toList_data]; rfl
 have b2 : (T.toList == [94]) = false := by rw [hT, Lib.toList_data]; rfl
 have b3 : (T.toList == [33]) = false := by rw [hT, Lib.toList_data]; rfl
 have b4 : (T.toList == [60, 45]) = false := by rw [hT, Lib.toList_data]; rfl
 have b5 : (T.toList == [109, 97, 107, 101]) = false := by rw [hT, Lib.toList_data]; rfl
 have b6 : (T.toList == [108, 101, 110]) = false := by rw [hT, Lib.toList_data]; rfl
 have b7 : (T.toList == [116, 114, 117, 101]) = true := by rw [hT, Lib.toList_data]; rfl
 have HT := zz hT
 clear h hE k3 k1 hd ht hn hT
 generalize (pk E n).kind = K at *
 obtain ⟨A, hA⟩ : ∃ A, A = (pk E n).at_ := ⟨_, rfl⟩
 rw [<- hA] at *
 clear hA
 have hf := tok_field0
 go_enter Tryz.func195, Tryz.ntmps195
 go_wp2_with (first
  | (go_at_call 88; refine (HP.out _ (by first | exact Below.refl _ _ | assumption)).mono ?_; rintro e w1 ⟨rfl, hb1⟩))
 refine (HSK.out _ (H0.out.fresh (below2 hb1 _ _))).mono ?_
 rintro e w3 ⟨rfl, hr3, hk3⟩
 obtain ⟨hx2, ht2⟩ := begun2 w1 K (pk E n).at_ T 100 89
 have hb2 := below2 hb1 (.cells #[.int .i64 K, .string T, .int .i64 (pk E n).at_] 100) (.cells #[.int .i64 0, .int .i64 (pk E n).at_, .int .i64 0, .string (mkT []), .int .i64 0, .pointer none, .pointer none, .slice none 0 0] 89)
 have hlo := H0.out.lt
 have hsz := hb1.size
 have hne : ¬ w1.heap.size + 1 = rb := by omega
 have hne1 : ¬ w1.heap.size = rb := by omega
 have hx3 := hx2.keeps hk3 hne
 have ht3 := hk3.cell_of ht2 hne1
 have hk03 := (Keeps.of_new hb2).trans hk3
 have hxlt : w1.heap.size + 1 < w3.heap.size := block_lt_of_cell hx3.c0
 have HX3 := zz hx3
 have HT3 := zz ht3
 have HR3 := zz hr3
 have HK3 := zz hk03
 have HB2 := zz hb2
 have HB1 := zz hb1
 have HLO := zz (show rb < w.heap.size /\ w.heap.size <= w1.heap.size from ⟨hlo, hsz⟩)
 have HXL := zz hxlt
 have HNE := zz hne
 clear hx2 ht2 hx3 ht3 hr3 hk3 hk03 hb2 hb1 hlo hsz hne1 hne hxlt
 have x0 := HX3.out.c0
 have z0 := HX3.out.z 0
 have x2 := HX3.out.c2
 have z2 := HX3.out.z 2
 go_wp2_with fail
 go_ret
 have hks := (((Keeps.refl (fun b => b = w1.heap.size + 1) w3).setCell (S := fun b => b = w1.heap.size + 1) (p := ⟨w1.heap.size + 1, 0, none⟩) (Or.inl rfl) (.int .i64 2)).setCell (S := fun b => b = w1.heap.size + 1) (p := ⟨w1.heap.size + 1, 2, none⟩) (Or.inl rfl) (.int .i64 1))
 refine ⟨_, HEV.out, _, rfl, ((HX3.out.set0 2).set2 1).ex (show w.heap.size <= w1.heap.size + 1 by have := HLO.out.2; omega) rfl, HR3.out.keeps hks (fun b e => by have := HLO.out; have : b = w1.heap.size + 1 := e; omega), HK3.out.trans' hks (fun b h e => by have := HLO.out; have : b = w1.heap.size + 1 := e; omega)⟩
theorem rone_false {dep : Nat} (hd : dd <= 12) (w : World) (h : RdAt w rb tv E n dep) (hE : TEnv rb E w) (k3 : (pk E n).kind ≠ 3) (k1 : (pk E n).kind ≠ 1) (ht : (pk E n).text = tFalse) : Calls Tryz.prog 195 #[.pointer (some ⟨rb, 0, none⟩), .int .i64 (dd : Nat)] w fun e w' =>
  ∃ r, Ev (fun f => Tr.one E f dd n) r /\ Says ExV w w' rb tv E dep r e := by
 have HP := zz (peeks h)
 have H0 := zz h
 have HE := zz hE
 have hn := pk_lt ht (by decide)
 have HSK : Hid (∀ W, RdAt W rb tv E n dep -> Calls Tryz.prog 94 #[.pointer (some ⟨rb, 0, none⟩)] W fun e w' => e = .returned (tokV (pk E n)) /\ RdAt w' rb tv E (n + 1) dep /\ Keeps (fun b => b = rb) W w') := zz fun W hW => skip_tok W hW hn
 have HEV : Hid (Ev (fun f => Tr.one E f dd n) (.ok (leaf 2 (pk E n).at_ 0 []) (n + 1))) := zz (Ev.now (fun e => by cases e) fun f => by rw [one_eq, if_neg (by omega), if_neg k3, if_neg k1, ht]; rfl)
 have hi : (dd : Int) <= 12 := by omega
 have hw : IntKind.i64.wrap ((dd : Int) + 1) = (dd : Int) + 1 := IntWalk.i64_in _ (by omega)
 have i3 : ¬ ((pk E n).kind : Int) = 3 := by omega
 have i1 : ¬ ((pk E n).kind : Int) = 1 := by omega
 unfold tokV at HP HSK
 rw [ht] at HP HSK
 obtain ⟨T, hT⟩ : ∃ T, T = mkT tFalse := ⟨_, rfl⟩
 rw [<- hT] at HP HSK
 have b0 : (T.toList == [40]) = false := by rw [hT, Lib.toList_data]; rfl
 have b1 : (T.toList == [45]) = false := by rw [hT, Lib.toList_data]; rfl
 have b2 : (T.toList == [94]) = false := by rw [hT, Lib.toList_data]; rfl
 have b3 : (T.toList == [33]) = false := by rw [hT, Lib.toList_data]; rfl
 have b4 : (T.toList == [60, 45]) = false := by rw [hT, Lib.toList_data]; rfl
 have b5 : (T.toList == [109, 97, 107, 101]) = false := by rw [hT, Lib.toList_data]; rfl
 have b6 : (T.toList == [108, 101, 110]) = false := by rw [hT, Lib.toList_data]; rfl
 have b7 : (T.toList == [116, 114, 117, 101]) = false := by rw [hT, Lib.toList_data]; rfl
 have b8 : (T.toList == [102, 97, 108, 115, 101]) = true := by rw [hT, Lib.toList_data]; rfl
 have HT := zz hT
 clear h hE k3 k1 hd ht hn hT
 generalize (pk E n).kind = K at *
 obtain ⟨A, hA⟩ : ∃ A, A = (pk E n).at_ := ⟨_, rfl⟩
 rw [<- hA] at *
 clear hA
 have hf := tok_field0
 go_enter Tryz.func195, Tryz.ntmps195
 go_wp2_with (first
  | (go_at_call 88; refine (HP.out _ (by first | exact Below.refl _ _ | assumption)).mono ?_; rintro e w1 ⟨rfl, hb1⟩))
 refine (HSK.out _ (H0.out.fresh (below2 hb1 _ _))).mono ?_
 rintro e w3 ⟨rfl, hr3, hk3⟩
 obtain ⟨hx2, ht2⟩ := begun2 w1 K (pk E n).at_ T 100 89
 have hb2 := below2 hb1 (.cells #[.int .i64 K, .string T, .int .i64 (pk E n).at_] 100) (.cells #[.int .i64 0, .int .i64 (pk E n).at_, .int .i64 0, .string (mkT []), .int .i64 0, .pointer none, .pointer none, .slice none 0 0] 89)
 have hlo := H0.out.lt
 have hsz := hb1.size
 have hne : ¬ w1.heap.size + 1 = rb := by omega
 have hne1 : ¬ w1.heap.size = rb := by omega
 have hx3 := hx2.keeps hk3 hne
 have ht3 := hk3.cell_of ht2 hne1
 have hk03 := (Keeps.of_new hb2).trans hk3
 have hxlt : w1.heap.size + 1 < w3.heap.size := block_lt_of_cell hx3.c0
 have HX3 := zz hx3
 have HT3 := zz ht3
 have HR3 := zz hr3
 have HK3 := zz hk03
 have HB2 := zz hb2
 have HB1 := zz hb1
 have HLO := zz (show rb < w.heap.size /\ w.heap.size <= w1.heap.size from ⟨hlo, hsz⟩)
 have HXL := zz hxlt
 have HNE := zz hne
 clear hx2 ht2 hx3 ht3 hr3 hk3 hk03 hb2 hb1 hlo hsz hne1 hne hxlt
 have x0 := HX3.out.c0
 have z0 := HX3.out.z 0
 go_wp2_with fail
 go_ret
 have hks := ((Keeps.refl (fun b => b = w1.heap.size + 1) w3).setCell (S := fun b => b = w1.heap.size + 1) (p := ⟨w1.heap.size + 1, 0, none⟩) (Or.inl rfl) (.int .i64 2))
 refine ⟨_, HEV.out, _, rfl, (HX3.out.set0 2).ex (show w.heap.size <= w1.heap.size + 1 by have := HLO.out.2; omega) rfl, HR3.out.keeps hks (fun b e => by have := HLO.out; have : b = w1.heap.size + 1 := e; omega), HK3.out.trans' hks (fun b h e => by have := HLO.out; have : b = w1.heap.size + 1 := e; omega)⟩
theorem rone_nil {dep : Nat} (hd : dd <= 12) (w : World) (h : RdAt w rb tv E n dep) (hE : TEnv rb E w) (k3 : (pk E n).kind ≠ 3) (k1 : (pk E n).kind ≠ 1) (ht : (pk E n).text = tNil) : Calls Tryz.prog 195 #[.pointer (some ⟨rb, 0, none⟩), .int .i64 (dd : Nat)] w fun e w' =>
  ∃ r, Ev (fun f => Tr.one E f dd n) r /\ Says ExV w w' rb tv E dep r e := by
 have HP := zz (peeks h)
 have H0 := zz h
 have HE := zz hE
 have hn := pk_lt ht (by decide)
 have HSK : Hid (∀ W, RdAt W rb tv E n dep -> Calls Tryz.prog 94 #[.pointer (some ⟨rb, 0, none⟩)] W fun e w' => e = .returned (tokV (pk E n)) /\ RdAt w' rb tv E (n + 1) dep /\ Keeps (fun b => b = rb) W w') := zz fun W hW => skip_tok W hW hn
 have HEV : Hid (Ev (fun f => Tr.one E f dd n) (.ok (leaf 3 (pk E n).at_ 0 []) (n + 1))) := zz (Ev.now (fun e => by cases e) fun f => by rw [one_eq, if_neg (by omega), if_neg k3, if_neg k1, ht]; rfl)
 have hi : (dd : Int) <= 12 := by omega
 have hw : IntKind.i64.wrap ((dd : Int) + 1) = (dd : Int) + 1 := IntWalk.i64_in _ (by omega)
 have i3 : ¬ ((pk E n).kind : Int) = 3 := by omega
 have i1 : ¬ ((pk E n).kind : Int) = 1 := by omega
 unfold tokV at HP HSK
 rw [ht] at HP HSK
 obtain ⟨T, hT⟩ : ∃ T, T = mkT tNil := ⟨_, rfl⟩
 rw [<- hT] at HP HSK
 have b0 : (T.toList == [40]) = false := by rw [hT, Lib.toList_data]; rfl
 have b1 : (T.toList == [45]) = false := by rw [hT, Lib.toList_data]; rfl
 have b2 : (T.toList == [94]) = false := by rw [hT, Lib.toList_data]; rfl
 have b3 : (T.toList == [33]) = false := by rw [hT, Lib.toList_data]; rfl
 have b4 : (T.toList == [60, 45]) = false := by rw [hT, Lib.toList_data]; rfl
 have b5 : (T.toList == [109, 97, 107, 101]) = false := by rw [hT, Lib.toList_data]; rfl
 have b6 : (T.toList == [108, 101, 110]) = false := by rw [hT, Lib.toList_data]; rfl
 have b7 : (T.toList == [116, 114, 117, 101]) = false := by rw [hT, Lib.toList_data]; rfl
 have b8 : (T.toList == [102, 97, 108, 115, 101]) = false := by rw [hT, Lib.toList_data]; rfl
 have b9 : (T.toList == [110, 105, 108]) = true := by rw [hT, Lib.toList_data]; rfl
 have HT := zz hT
 clear h hE k3 k1 hd ht hn hT
 generalize (pk E n).kind = K at *
 obtain ⟨A, hA⟩ : ∃ A, A = (pk E n).at_ := ⟨_, rfl⟩
 rw [<- hA] at *
 clear hA
 have hf := tok_field0
 go_enter Tryz.func195, Tryz.ntmps195
 go_wp2_with (first
  | (go_at_call 88; refine (HP.out _ (by first | exact Below.refl _ _ | assumption)).mono ?_; rintro e w1 ⟨rfl, hb1⟩))
 refine (HSK.out _ (H0.out.fresh (below2 hb1 _ _))).mono ?_
 rintro e w3 ⟨rfl, hr3, hk3⟩
 obtain ⟨hx2, ht2⟩ := begun2 w1 K (pk E n).at_ T 100 89
 have hb2 := below2 hb1 (.cells #[.int .i64 K, .string T, .int .i64 (pk E n).at_] 100) (.cells #[.int .i64 0, .int .i64 (pk E n).at_, .int .i64 0, .string (mkT []), .int .i64 0, .pointer none, .pointer none, .slice none 0 0] 89)
 have hlo := H0.out.lt
 have hsz := hb1.size
 have hne : ¬ w1.heap.size + 1 = rb := by omega
 have hne1 : ¬ w1.heap.size = rb := by omega
 have hx3 := hx2.keeps hk3 hne
 have ht3 := hk3.cell_of ht2 hne1
 have hk03 := (Keeps.of_new hb2).trans hk3
 have hxlt : w1.heap.size + 1 < w3.heap.size := block_lt_of_cell hx3.c0
 have HX3 := zz hx3
 have HT3 := zz ht3
 have HR3 := zz hr3
 have HK3 := zz hk03
 have HB2 := zz hb2
 have HB1 := zz hb1
 have HLO := zz (show rb < w.heap.size /\ w.heap.size <= w1.heap.size from ⟨hlo, hsz⟩)
 have HXL := zz hxlt
 have HNE := zz hne
 clear hx2 ht2 hx3 ht3 hr3 hk3 hk03 hb2 hb1 hlo hsz hne1 hne hxlt
 have x0 := HX3.out.c0
 have z0 := HX3.out.z 0
 go_wp2_with fail
 go_ret
 have hks := ((Keeps.refl (fun b => b = w1.heap.size + 1) w3).setCell (S := fun b => b = w1.heap.size + 1) (p := ⟨w1.heap.size + 1, 0, none⟩) (Or.inl rfl) (.int .i64 3))
 refine ⟨_, HEV.out, _, rfl, (HX3.out.set0 3).ex (show w.heap.size <= w1.heap.size + 1 by have := HLO.out.2; omega) rfl, HR3.out.keeps hks (fun b e => by have := HLO.out; have : b = w1.heap.size + 1 := e; omega), HK3.out.trans' hks (fun b h e => by have := HLO.out; have : b = w1.heap.size + 1 := e; omega)⟩
theorem rone_make {dep : Nat} (hd : dd <= 12) (hX : ExprC rb tv E dep (dd + 1)) (w : World) (h : RdAt w rb tv E n dep) (hE : TEnv rb E w) (k3 : (pk E n).kind ≠ 3) (k1 : (pk E n).kind ≠ 1) (ht : (pk E n).text = tMake) : Calls Tryz.prog 195 #[.pointer (some ⟨rb, 0, none⟩), .int .i64 (dd : Nat)] w fun e w' =>
  ∃ r, Ev (fun f => Tr.one E f dd n) r /\ Says ExV w w' rb tv E dep r e := by
 have HP := zz (peeks h)
 have H0 := zz h
 have HE := zz hE
 have hn := pk_lt ht (by decide)
 have HSK : Hid (∀ W, RdAt W rb tv E n dep -> Calls Tryz.prog 94 #[.pointer (some ⟨rb, 0, none⟩)] W fun e w' => e = .returned (tokV (pk E n)) /\ RdAt w' rb tv E (n + 1) dep /\ Keeps (fun b => b = rb) W w') := zz fun W hW => skip_tok W hW hn
 have HX := zz hX
 have HDD := zz (show dd <= 20 by omega)
 have HEV : Hid (∀ r, Ev (fun f => bracketed E f dd (n + 1)) r -> Ev (fun f => Tr.one E f dd n) (r.bind fun x m => .ok (.mk 8 (pk E n).at_ 0 0 [] x .nil .nil) m)) := zz fun r hr => Ev.step (h := fun f => (bracketed E f dd (n + 1)).bind fun x m => .ok (.mk 8 (pk E n).at_ 0 0 [] x .nil .nil) m) (fun f => by rw [one_eq, if_neg (by omega), if_neg k3, if_neg k1, ht]; rfl) (Ev.map _ (fun _ _ e => by cases e) hr)
 have hi : (dd : Int) <= 12 := by omega
 have hw : IntKind.i64.wrap ((dd : Int) + 1) = (dd : Int) + 1 := IntWalk.i64_in _ (by omega)
 have i3 : ¬ ((pk E n).kind : Int) = 3 := by omega
 have i1 : ¬ ((pk E n).kind : Int) = 1 := by omega
 unfold tokV at HP HSK
 rw [ht] at HP HSK
 obtain ⟨T, hT⟩ : ∃ T, T = mkT tMake := ⟨_, rfl⟩
 rw [<- hT] at HP HSK
 have b0 : (T.toList == [40]) = false := by rw [hT, Lib.toList_data]; rfl
 have b1 : (T.toList == [45]) = false := by rw [hT, Lib.toList_data]; rfl
 have b2 : (T.toList == [94]) = false := by rw [hT, Lib.toList_data]; rfl
 have b3 : (T.toList == [33]) = false := by rw [hT, Lib.toList_data]; rfl
 have b4 : (T.toList == [60, 45]) = false := by rw [hT, Lib.toList_data]; rfl
 have b5 : (T.toList == [109, 97, 107, 101]) = true := by rw [hT, Lib.toList_data]; rfl
 have HT := zz hT
 clear h hE k3 k1 hd ht hn hT hX
 generalize (pk E n).kind = K at *
 obtain ⟨A, hA⟩ : ∃ A, A = (pk E n).at_ := ⟨_, rfl⟩
 rw [<- hA] at *
 clear hA
 have hf := tok_field0
 go_enter Tryz.func195, Tryz.ntmps195
 go_wp2_with (first
  | (go_at_call 88; refine (HP.out _ (by first | exact Below.refl _ _ | assumption)).mono ?_; rintro e w1 ⟨rfl, hb1⟩))
 refine (HSK.out _ (H0.out.fresh (below2 hb1 _ _))).mono ?_
 rintro e w3 ⟨rfl, hr3, hk3⟩
 obtain ⟨hx2, ht2⟩ := begun2 w1 K (pk E n).at_ T 100 89
 have hb2 := below2 hb1 (.cells #[.int .i64 K, .string T, .int .i64 (pk E n).at_] 100) (.cells #[.int .i64 0, .int .i64 (pk E n).at_, .int .i64 0, .string (mkT []), .int .i64 0, .pointer none, .pointer none, .slice none 0 0] 89)
 have hlo := H0.out.lt
 have hsz := hb1.size
 have hne : ¬ w1.heap.size + 1 = rb := by omega
 have hne1 : ¬ w1.heap.size = rb := by omega
 have hx3 := hx2.keeps hk3 hne
 have ht3 := hk3.cell_of ht2 hne1
 have hk03 := (Keeps.of_new hb2).trans hk3
 have hxlt : w1.heap.size + 1 < w3.heap.size := block_lt_of_cell hx3.c0
 have HX3 := zz hx3
 have HT3 := zz ht3
 have HR3 := zz hr3
 have HK3 := zz hk03
 have HB2 := zz hb2
 have HB1 := zz hb1
 have HLO := zz (show rb < w.heap.size /\ w.heap.size <= w1.heap.size from ⟨hlo, hsz⟩)
 have HXL := zz hxlt
 have HNE := zz hne
 clear hx2 ht2 hx3 ht3 hr3 hk3 hk03 hb2 hb1 hlo hsz hne1 hne hxlt
 go_wp2_with fail
 refine (bracketed_any HX.out HDD.out w3 HR3.out (HE.out.keeps HK3.out (fun _ e => Nat.le_of_eq e.symm))).mono ?_
 rintro e w4 ⟨r, hev, hsay⟩
 have hev2 := zz (HEV.out r hev)
 cases r with
 | out => exact hsay.elim
 | bad k a =>
  have hsay' : Threw w3 w4 rb k a e := hsay
  obtain ⟨b, rfl⟩ := threw_panic hsay'
  exact ⟨rfl, _, hev2.out, hsay'.own HLO.out.1 HK3.out⟩
 | ok x m =>
  obtain ⟨v, rfl, hx, hr4, hk4⟩ := hsay
  obtain ⟨o, rfl⟩ := ex_ptr hx
  have hx4 := HX3.out.keeps hk4 HNE.out
  have HX4 := zz hx4
  have HXV := zz hx
  have HR4 := zz hr4
  have HK4 := zz hk4
  clear hx4 hx hr4 hk4 hev
  have x0 := HX4.out.c0
  have z0 := HX4.out.z 0
  have x5 := HX4.out.c5
  have z5 := HX4.out.z 5
  go_wp2_with fail
  go_ret
  have hks := (((Keeps.refl (fun b => b = w1.heap.size + 1) w4).setCell (S := fun b => b = w1.heap.size + 1) (p := ⟨w1.heap.size + 1, 0, none⟩) (Or.inl rfl) (.int .i64 8)).setCell (S := fun b => b = w1.heap.size + 1) (p := ⟨w1.heap.size + 1, 5, none⟩) (Or.inl rfl) (.pointer o))
  refine ⟨_, hev2.out, _, rfl, ((HX4.out.set0 8).set5 (.pointer o)).ex (show w.heap.size <= w1.heap.size + 1 by have := HLO.out.2; omega) ?_, HR4.out.keeps hks (fun b e => by have := HLO.out; have : b = w1.heap.size + 1 := e; omega), (HK3.out.trans HK4.out).trans' hks (fun b h e => by have := HLO.out; have : b = w1.heap.size + 1 := e; omega)⟩
  exact ExIn.mono (fun b _ e => by have h1 : w3.heap.size <= b := e; have := HK3.out.size; show w.heap.size <= b; omega) _ _ (ExIn.keeps HXV.out hks (fun b e e2 => by have h1 : w3.heap.size <= b := e; have h2 : b = w1.heap.size + 1 := e2; have := HXL.out; omega))
theorem rone_len {dep : Nat} (hd : dd <= 12) (hX : ExprC rb tv E dep (dd + 1)) (w : World) (h : RdAt w rb tv E n dep) (hE : TEnv rb E w) (k3 : (pk E n).kind ≠ 3) (k1 : (pk E n).kind ≠ 1) (ht : (pk E n).text = tLen) : Calls Tryz.prog 195 #[.pointer (some ⟨rb, 0, none⟩), .int .i64 (dd : Nat)] w fun e w' =>
  ∃ r, Ev (fun f => Tr.one E f dd n) r /\ Says ExV w w' rb tv E dep r e := by
 have HP := zz (peeks h)
 have H0 := zz h
 have HE := zz hE
 have hn := pk_lt ht (by decide)
 have HSK : Hid (∀ W, RdAt W rb tv E n dep -> Calls Tryz.prog 94 #[.pointer (some ⟨rb, 0, none⟩)] W fun e w' => e = .returned (tokV (pk E n)) /\ RdAt w' rb tv E (n + 1) dep /\ Keeps (fun b => b = rb) W w') := zz fun W hW => skip_tok W hW hn
 have HX := zz hX
 have HDD := zz (show dd <= 20 by omega)
 have HEV : Hid (∀ r, Ev (fun f => bracketed E f dd (n + 1)) r -> Ev (fun f => Tr.one E f dd n) (r.bind fun x m => .ok (.mk 9 (pk E n).at_ 0 0 [] x .nil .nil) m)) := zz fun r hr => Ev.step (h := fun f => (bracketed E f dd (n + 1)).bind fun x m => .ok (.mk 9 (pk E n).at_ 0 0 [] x .nil .nil) m) (fun f => by rw [one_eq, if_neg (by omega), if_neg k3, if_neg k1, ht]; rfl) (Ev.map _ (fun _ _ e => by cases e) hr)
 have hi : (dd : Int) <= 12 := by omega
 have hw : IntKind.i64.wrap ((dd : Int) + 1) = (dd : Int) + 1 := IntWalk.i64_in _ (by omega)
 have i3 : ¬ ((pk E n).kind : Int) = 3 := by omega
 have i1 : ¬ ((pk E n).kind : Int) = 1 := by omega
 unfold tokV at HP HSK
 rw [ht] at HP HSK
 obtain ⟨T, hT⟩ : ∃ T, T = mkT tLen := ⟨_, rfl⟩
 rw [<- hT] at HP HSK
 have b0 : (T.toList == [40]) = false := by rw [hT, Lib.toList_data]; rfl
 have b1 : (T.toList == [45]) = false := by rw [hT, Lib.toList_data]; rfl
 have b2 : (T.toList == [94]) = false := by rw [hT, Lib.toList_data]; rfl
 have b3 : (T.toList == [33]) = false := by rw [hT, Lib.toList_data]; rfl
 have b4 : (T.toList == [60, 45]) = false := by rw [hT, Lib.toList_data]; rfl
 have b5 : (T.toList == [109, 97, 107, 101]) = false := by rw [hT, Lib.toList_data]; rfl
 have b6 : (T.toList == [108, 101, 110]) = true := by rw [hT, Lib.toList_data]; rfl
 have HT := zz hT
 clear h hE k3 k1 hd ht hn hT hX
 generalize (pk E n).kind = K at *
 obtain ⟨A, hA⟩ : ∃ A, A = (pk E n).at_ := ⟨_, rfl⟩
 rw [<- hA] at *
 clear hA
 have hf := tok_field0
 go_enter Tryz.func195, Tryz.ntmps195
 go_wp2_with (first
  | (go_at_call 88; refine (HP.out _ (by first | exact Below.refl _ _ | assumption)).mono ?_; rintro e w1 ⟨rfl, hb1⟩))
 refine (HSK.out _ (H0.out.fresh (below2 hb1 _ _))).mono ?_
 rintro e w3 ⟨rfl, hr3, hk3⟩
 obtain ⟨hx2, ht2⟩ := begun2 w1 K (pk E n).at_ T 100 89
 have hb2 := below2 hb1 (.cells #[.int .i64 K, .string T, .int .i64 (pk E n).at_] 100) (.cells #[.int .i64 0, .int .i64 (pk E n).at_, .int .i64 0, .string (mkT []), .int .i64 0, .pointer none, .pointer none, .slice none 0 0] 89)
 have hlo := H0.out.lt
 have hsz := hb1.size
 have hne : ¬ w1.heap.size + 1 = rb := by omega
 have hne1 : ¬ w1.heap.size = rb := by omega
 have hx3 := hx2.keeps hk3 hne
 have ht3 := hk3.cell_of ht2 hne1
 have hk03 := (Keeps.of_new hb2).trans hk3
 have hxlt : w1.heap.size + 1 < w3.heap.size := block_lt_of_cell hx3.c0
 have HX3 := zz hx3
 have HT3 := zz ht3
 have HR3 := zz hr3
 have HK3 := zz hk03
 have HB2 := zz hb2
 have HB1 := zz hb1
 have HLO := zz (show rb < w.heap.size /\ w.heap.size <= w1.heap.size from ⟨hlo, hsz⟩)
 have HXL := zz hxlt
 have HNE := zz hne
 clear hx2 ht2 hx3 ht3 hr3 hk3 hk03 hb2 hb1 hlo hsz hne1 hne hxlt
 go_wp2_with fail
 refine (bracketed_any HX.out HDD.out w3 HR3.out (HE.out.keeps HK3.out (fun _ e => Nat.le_of_eq e.symm))).mono ?_
 rintro e w4 ⟨r, hev, hsay⟩
 have hev2 := zz (HEV.out r hev)
 cases r with
 | out => exact hsay.elim
 | bad k a =>
  have hsay' : Threw w3 w4 rb k a e := hsay
  obtain ⟨b, rfl⟩ := threw_panic hsay'
  exact ⟨rfl, _, hev2.out, hsay'.own HLO.out.1 HK3.out⟩
 | ok x m =>
  obtain ⟨v, rfl, hx, hr4, hk4⟩ := hsay
  obtain ⟨o, rfl⟩ := ex_ptr hx
  have hx4 := HX3.out.keeps hk4 HNE.out
  have HX4 := zz hx4
  have HXV := zz hx
  have HR4 := zz hr4
  have HK4 := zz hk4
  clear hx4 hx hr4 hk4 hev
  have x0 := HX4.out.c0
  have z0 := HX4.out.z 0
  have x5 := HX4.out.c5
  have z5 := HX4.out.z 5
  go_wp2_with fail
  go_ret
  have hks := (((Keeps.refl (fun b => b = w1.heap.size + 1) w4).setCell (S := fun b => b = w1.heap.size + 1) (p := ⟨w1.heap.size + 1, 0, none⟩) (Or.inl rfl) (.int .i64 9)).setCell (S := fun b => b = w1.heap.size + 1) (p := ⟨w1.heap.size + 1, 5, none⟩) (Or.inl rfl) (.pointer o))
  refine ⟨_, hev2.out, _, rfl, ((HX4.out.set0 9).set5 (.pointer o)).ex (show w.heap.size <= w1.heap.size + 1 by have := HLO.out.2; omega) ?_, HR4.out.keeps hks (fun b e => by have := HLO.out; have : b = w1.heap.size + 1 := e; omega), (HK3.out.trans HK4.out).trans' hks (fun b h e => by have := HLO.out; have : b = w1.heap.size + 1 := e; omega)⟩
  exact ExIn.mono (fun b _ e => by have h1 : w3.heap.size <= b := e; have := HK3.out.size; show w.heap.size <= b; omega) _ _ (ExIn.keeps HXV.out hks (fun b e e2 => by have h1 : w3.heap.size <= b := e; have h2 : b = w1.heap.size + 1 := e2; have := HXL.out; omega))
theorem rone_recv {dep : Nat} (hd : dd <= 12) (hO : OneC rb tv E dep (dd + 1)) (w : World) (h : RdAt w rb tv E n dep) (hE : TEnv rb E w) (k3 : (pk E n).kind ≠ 3) (k1 : (pk E n).kind ≠ 1) (ht : (pk E n).text = tArrow) : Calls Tryz.prog 195 #[.pointer (some ⟨rb, 0, none⟩), .int .i64 (dd : Nat)] w fun e w' =>
  ∃ r, Ev (fun f => Tr.one E f dd n) r /\ Says ExV w w' rb tv E dep r e := by
 have HP := zz (peeks h)
 have H0 := zz h
 have HE := zz hE
 have hn := pk_lt ht (by decide)
 have HSK : Hid (∀ W, RdAt W rb tv E n dep -> Calls Tryz.prog 94 #[.pointer (some ⟨rb, 0, none⟩)] W fun e w' => e = .returned (tokV (pk E n)) /\ RdAt w' rb tv E (n + 1) dep /\ Keeps (fun b => b = rb) W w') := zz fun W hW => skip_tok W hW hn
 have HO := zz hO
 have HEV : Hid (∀ r, Ev (fun f => Tr.one E f (dd + 1) (n + 1)) r -> Ev (fun f => Tr.one E f dd n) (r.bind fun x m => .ok (.mk 10 (pk E n).at_ 0 0 [] x .nil .nil) m)) := zz fun r hr => Ev.step (h := fun f => (Tr.one E f (dd + 1) (n + 1)).bind fun x m => .ok (.mk 10 (pk E n).at_ 0 0 [] x .nil .nil) m) (fun f => by rw [one_eq, if_neg (by omega), if_neg k3, if_neg k1, ht]; rfl) (Ev.map _ (fun _ _ e => by cases e) hr)
 have hi : (dd : Int) <= 12 := by omega
 have hw : IntKind.i64.wrap ((dd : Int) + 1) = (dd : Int) + 1 := IntWalk.i64_in _ (by omega)
 have i3 : ¬ ((pk E n).kind : Int) = 3 := by omega
 have i1 : ¬ ((pk E n).kind : Int) = 1 := by omega
 unfold tokV at HP HSK
 rw [ht] at HP HSK
 obtain ⟨T, hT⟩ : ∃ T, T = mkT tArrow := ⟨_, rfl⟩
 rw [<- hT] at HP HSK
 have b0 : (T.toList == [40]) = false := by rw [hT, Lib.toList_data]; rfl
 have b1 : (T.toList == [45]) = false := by rw [hT, Lib.toList_data]; rfl
 have b2 : (T.toList == [94]) = false := by rw [hT, Lib.toList_data]; rfl
 have b3 : (T.toList == [33]) = false := by rw [hT, Lib.toList_data]; rfl
 have b4 : (T.toList == [60, 45]) = true := by rw [hT, Lib.toList_data]; rfl
 have HT := zz hT
 clear h hE k3 k1 hd ht hn hT hO
 generalize (pk E n).kind = K at *
 obtain ⟨A, hA⟩ : ∃ A, A = (pk E n).at_ := ⟨_, rfl⟩
 rw [<- hA] at *
 clear hA
 have hf := tok_field0
 go_enter Tryz.func195, Tryz.ntmps195
 go_wp2_with (first
  | (go_at_call 88; refine (HP.out _ (by first | exact Below.refl _ _ | assumption)).mono ?_; rintro e w1 ⟨rfl, hb1⟩))
 refine (HSK.out _ (H0.out.fresh (below2 hb1 _ _))).mono ?_
 rintro e w3 ⟨rfl, hr3, hk3⟩
 obtain ⟨hx2, ht2⟩ := begun2 w1 K (pk E n).at_ T 100 89
 have hb2 := below2 hb1 (.cells #[.int .i64 K, .string T, .int .i64 (pk E n).at_] 100) (.cells #[.int .i64 0, .int .i64 (pk E n).at_, .int .i64 0, .string (mkT []), .int .i64 0, .pointer none, .pointer none, .slice none 0 0] 89)
 have hlo := H0.out.lt
 have hsz := hb1.size
 have hne : ¬ w1.heap.size + 1 = rb := by omega
 have hne1 : ¬ w1.heap.size = rb := by omega
 have hx3 := hx2.keeps hk3 hne
 have ht3 := hk3.cell_of ht2 hne1
 have hk03 := (Keeps.of_new hb2).trans hk3
 have hxlt : w1.heap.size + 1 < w3.heap.size := block_lt_of_cell hx3.c0
 have HX3 := zz hx3
 have HT3 := zz ht3
 have HR3 := zz hr3
 have HK3 := zz hk03
 have HB2 := zz hb2
 have HB1 := zz hb1
 have HLO := zz (show rb < w.heap.size /\ w.heap.size <= w1.heap.size from ⟨hlo, hsz⟩)
 have HXL := zz hxlt
 have HNE := zz hne
 clear hx2 ht2 hx3 ht3 hr3 hk3 hk03 hb2 hb1 hlo hsz hne1 hne hxlt
 have HON : Hid (Calls Tryz.prog 195 #[.pointer (some ⟨rb, 0, none⟩), .int .i64 ((dd : Int) + 1)] w3 fun e w' => ∃ r, Ev (fun f => Tr.one E f (dd + 1) (n + 1)) r /\ Says ExV w3 w' rb tv E dep r e) := zz (by have h := HO.out (n + 1) w3 HR3.out (HE.out.keeps HK3.out (fun _ e => Nat.le_of_eq e.symm)); rw [Int.natCast_add] at h; exact h)
 go_wp2_with fail
 refine (HON.out).mono ?_
 rintro e w4 ⟨r, hev, hsay⟩
 have hev2 := zz (HEV.out r hev)
 cases r with
 | out => exact hsay.elim
 | bad k a =>
  have hsay' : Threw w3 w4 rb k a e := hsay
  obtain ⟨b, rfl⟩ := threw_panic hsay'
  exact ⟨rfl, _, hev2.out, hsay'.own HLO.out.1 HK3.out⟩
 | ok x m =>
  obtain ⟨v, rfl, hx, hr4, hk4⟩ := hsay
  obtain ⟨o, rfl⟩ := ex_ptr hx
  have hx4 := HX3.out.keeps hk4 HNE.out
  have HX4 := zz hx4
  have HXV := zz hx
  have HR4 := zz hr4
  have HK4 := zz hk4
  clear hx4 hx hr4 hk4 hev
  have x0 := HX4.out.c0
  have z0 := HX4.out.z 0
  have x5 := HX4.out.c5
  have z5 := HX4.out.z 5
  go_wp2_with fail
  go_ret
  have hks := (((Keeps.refl (fun b => b = w1.heap.size + 1) w4).setCell (S := fun b => b = w1.heap.size + 1) (p := ⟨w1.heap.size + 1, 0, none⟩) (Or.inl rfl) (.int .i64 10)).setCell (S := fun b => b = w1.heap.size + 1) (p := ⟨w1.heap.size + 1, 5, none⟩) (Or.inl rfl) (.pointer o))
  refine ⟨_, hev2.out, _, rfl, ((HX4.out.set0 10).set5 (.pointer o)).ex (show w.heap.size <= w1.heap.size + 1 by have := HLO.out.2; omega) ?_, HR4.out.keeps hks (fun b e => by have := HLO.out; have : b = w1.heap.size + 1 := e; omega), (HK3.out.trans HK4.out).trans' hks (fun b h e => by have := HLO.out; have : b = w1.heap.size + 1 := e; omega)⟩
  exact ExIn.mono (fun b _ e => by have h1 : w3.heap.size <= b := e; have := HK3.out.size; show w.heap.size <= b; omega) _ _ (ExIn.keeps HXV.out hks (fun b e e2 => by have h1 : w3.heap.size <= b := e; have h2 : b = w1.heap.size + 1 := e2; have := HXL.out; omega))
theorem rone_un1 {dep : Nat} (hd : dd <= 12) (hO : OneC rb tv E dep (dd + 1)) (w : World) (h : RdAt w rb tv E n dep) (hE : TEnv rb E w) (k3 : (pk E n).kind ≠ 3) (k1 : (pk E n).kind ≠ 1) (ht : (pk E n).text = [45]) : Calls Tryz.prog 195 #[.pointer (some ⟨rb, 0, none⟩), .int .i64 (dd : Nat)] w fun e w' =>
  ∃ r, Ev (fun f => Tr.one E f dd n) r /\ Says ExV w w' rb tv E dep r e := by
 have HP := zz (peeks h)
 have H0 := zz h
 have HE := zz hE
 have hn := pk_lt ht (by decide)
 have HSK : Hid (∀ W, RdAt W rb tv E n dep -> Calls Tryz.prog 94 #[.pointer (some ⟨rb, 0, none⟩)] W fun e w' => e = .returned (tokV (pk E n)) /\ RdAt w' rb tv E (n + 1) dep /\ Keeps (fun b => b = rb) W w') := zz fun W hW => skip_tok W hW hn
 have HO := zz hO
 have HEV : Hid (∀ r, Ev (fun f => Tr.one E f (dd + 1) (n + 1)) r -> Ev (fun f => Tr.one E f dd n) (r.bind fun x m => .ok (.mk 6 (pk E n).at_ 0 (op1V [45]) [] x .nil .nil) m)) := zz fun r hr => Ev.step (h := fun f => (Tr.one E f (dd + 1) (n + 1)).bind fun x m => .ok (.mk 6 (pk E n).at_ 0 (op1V [45]) [] x .nil .nil) m) (fun f => by rw [one_eq, if_neg (by omega), if_neg k3, if_neg k1, ht]; rfl) (Ev.map _ (fun _ _ e => by cases e) hr)
 have hi : (dd : Int) <= 12 := by omega
 have hw : IntKind.i64.wrap ((dd : Int) + 1) = (dd : Int) + 1 := IntWalk.i64_in _ (by omega)
 have i3 : ¬ ((pk E n).kind : Int) = 3 := by omega
 have i1 : ¬ ((pk E n).kind : Int) = 1 := by omega
 unfold tokV at HP HSK
 rw [ht] at HP HSK
 obtain ⟨T, hT⟩ : ∃ T, T = mkT [45] := ⟨_, rfl⟩
 rw [<- hT] at HP HSK
 have b0 : (T.toList == [40]) = false := by rw [hT, Lib.toList_data]; rfl
 have b1 : (T.toList == [45]) = true := by rw [hT, Lib.toList_data]; rfl
 have HT := zz hT
 clear h hE k3 k1 hd ht hn hT hO
 generalize (pk E n).kind = K at *
 obtain ⟨A, hA⟩ : ∃ A, A = (pk E n).at_ := ⟨_, rfl⟩
 rw [<- hA] at *
 clear hA
 have hf := tok_field0
 go_enter Tryz.func195, Tryz.ntmps195
 go_wp2_with (first
  | (go_at_call 88; refine (HP.out _ (by first | exact Below.refl _ _ | assumption)).mono ?_; rintro e w1 ⟨rfl, hb1⟩))
 refine (HSK.out _ (H0.out.fresh (below2 hb1 _ _))).mono ?_
 rintro e w3 ⟨rfl, hr3, hk3⟩
 obtain ⟨hx2, ht2⟩ := begun2 w1 K (pk E n).at_ T 100 89
 have hb2 := below2 hb1 (.cells #[.int .i64 K, .string T, .int .i64 (pk E n).at_] 100) (.cells #[.int .i64 0, .int .i64 (pk E n).at_, .int .i64 0, .string (mkT []), .int .i64 0, .pointer none, .pointer none, .slice none 0 0] 89)
 have hlo := H0.out.lt
 have hsz := hb1.size
 have hne : ¬ w1.heap.size + 1 = rb := by omega
 have hne1 : ¬ w1.heap.size = rb := by omega
 have hx3 := hx2.keeps hk3 hne
 have ht3 := hk3.cell_of ht2 hne1
 have hk03 := (Keeps.of_new hb2).trans hk3
 have hxlt : w1.heap.size + 1 < w3.heap.size := block_lt_of_cell hx3.c0
 have HX3 := zz hx3
 have HT3 := zz ht3
 have HR3 := zz hr3
 have HK3 := zz hk03
 have HB2 := zz hb2
 have HB1 := zz hb1
 have HLO := zz (show rb < w.heap.size /\ w.heap.size <= w1.heap.size from ⟨hlo, hsz⟩)
 have HXL := zz hxlt
 have HNE := zz hne
 clear hx2 ht2 hx3 ht3 hr3 hk3 hk03 hb2 hb1 hlo hsz hne1 hne hxlt
 have HON : Hid (Calls Tryz.prog 195 #[.pointer (some ⟨rb, 0, none⟩), .int .i64 ((dd : Int) + 1)] w3 fun e w' => ∃ r, Ev (fun f => Tr.one E f (dd + 1) (n + 1)) r /\ Says ExV w3 w' rb tv E dep r e) := zz (by have h := HO.out (n + 1) w3 HR3.out (HE.out.keeps HK3.out (fun _ e => Nat.le_of_eq e.symm)); rw [Int.natCast_add] at h; exact h)
 have HSG := zz (one_any T w3 (HE.out.keeps HK3.out (fun _ e => Nat.le_of_eq e.symm)).signs)
 have ht3 := HT3.out
 have hop : writV T.toList 3 17 = op1V [45] := by rw [HT.out, Lib.toList_data]; rfl
 rw [hop] at HSG
 clear hop
 go_wp2_with (go_at_call 206; refine HSG.out.mono ?_; rintro e w9 ⟨rfl, rfl⟩)
 refine (HON.out).mono ?_
 rintro e w4 ⟨r, hev, hsay⟩
 have hev2 := zz (HEV.out r hev)
 cases r with
 | out => exact hsay.elim
 | bad k a =>
  have hsay' : Threw w3 w4 rb k a e := hsay
  obtain ⟨b, rfl⟩ := threw_panic hsay'
  exact ⟨rfl, _, hev2.out, hsay'.own HLO.out.1 HK3.out⟩
 | ok x m =>
  obtain ⟨v, rfl, hx, hr4, hk4⟩ := hsay
  obtain ⟨o, rfl⟩ := ex_ptr hx
  have hx4 := HX3.out.keeps hk4 HNE.out
  have HX4 := zz hx4
  have HXV := zz hx
  have HR4 := zz hr4
  have HK4 := zz hk4
  clear hx4 hx hr4 hk4 hev
  have x0 := HX4.out.c0
  have z0 := HX4.out.z 0
  have x4 := HX4.out.c4
  have z4 := HX4.out.z 4
  have x5 := HX4.out.c5
  have z5 := HX4.out.z 5
  go_wp2_with fail
  go_ret
  have hks := ((((Keeps.refl (fun b => b = w1.heap.size + 1) w4).setCell (S := fun b => b = w1.heap.size + 1) (p := ⟨w1.heap.size + 1, 0, none⟩) (Or.inl rfl) (.int .i64 6)).setCell (S := fun b => b = w1.heap.size + 1) (p := ⟨w1.heap.size + 1, 4, none⟩) (Or.inl rfl) (.int .i64 ((op1V [45]) : Nat))).setCell (S := fun b => b = w1.heap.size + 1) (p := ⟨w1.heap.size + 1, 5, none⟩) (Or.inl rfl) (.pointer o))
  refine ⟨_, hev2.out, _, rfl, (((HX4.out.set0 6).set4 (op1V [45])).set5 (.pointer o)).ex (show w.heap.size <= w1.heap.size + 1 by have := HLO.out.2; omega) ?_, HR4.out.keeps hks (fun b e => by have := HLO.out; have : b = w1.heap.size + 1 := e; omega), (HK3.out.trans HK4.out).trans' hks (fun b h e => by have := HLO.out; have : b = w1.heap.size + 1 := e; omega)⟩
  exact ExIn.mono (fun b _ e => by have h1 : w3.heap.size <= b := e; have := HK3.out.size; show w.heap.size <= b; omega) _ _ (ExIn.keeps HXV.out hks (fun b e e2 => by have h1 : w3.heap.size <= b := e; have h2 : b = w1.heap.size + 1 := e2; have := HXL.out; omega))
theorem rone_un2 {dep : Nat} (hd : dd <= 12) (hO : OneC rb tv E dep (dd + 1)) (w : World) (h : RdAt w rb tv E n dep) (hE : TEnv rb E w) (k3 : (pk E n).kind ≠ 3) (k1 : (pk E n).kind ≠ 1) (ht : (pk E n).text = [94]) : Calls Tryz.prog 195 #[.pointer (some ⟨rb, 0, none⟩), .int .i64 (dd : Nat)] w fun e w' =>
  ∃ r, Ev (fun f => Tr.one E f dd n) r /\ Says ExV w w' rb tv E dep r e := by
 have HP := zz (peeks h)
 have H0 := zz h
 have HE := zz hE
 have hn := pk_lt ht (by decide)
 have HSK : Hid (∀ W, RdAt W rb tv E n dep -> Calls Tryz.prog 94 #[.pointer (some ⟨rb, 0, none⟩)] W fun e w' => e = .returned (tokV (pk E n)) /\ RdAt w' rb tv E (n + 1) dep /\ Keeps (fun b => b = rb) W w') := zz fun W hW => skip_tok W hW hn
 have HO := zz hO
 have HEV : Hid (∀ r, Ev (fun f => Tr.one E f (dd + 1) (n + 1)) r -> Ev (fun f => Tr.one E f dd n) (r.bind fun x m => .ok (.mk 6 (pk E n).at_ 0 (op1V [94]) [] x .nil .nil) m)) := zz fun r hr => Ev.step (h := fun f => (Tr.one E f (dd + 1) (n + 1)).bind fun x m => .ok (.mk 6 (pk E n).at_ 0 (op1V [94]) [] x .nil .nil) m) (fun f => by rw [one_eq, if_neg (by omega), if_neg k3, if_neg k1, ht]; rfl) (Ev.map _ (fun _ _ e => by cases e) hr)
 have hi : (dd : Int) <= 12 := by omega
 have hw : IntKind.i64.wrap ((dd : Int) + 1) = (dd : Int) + 1 := IntWalk.i64_in _ (by omega)
 have i3 : ¬ ((pk E n).kind : Int) = 3 := by omega
 have i1 : ¬ ((pk E n).kind : Int) = 1 := by omega
 unfold tokV at HP HSK
 rw [ht] at HP HSK
 obtain ⟨T, hT⟩ : ∃ T, T = mkT [94] := ⟨_, rfl⟩
 rw [<- hT] at HP HSK
 have b0 : (T.toList == [40]) = false := by rw [hT, Lib.toList_data]; rfl
 have b1 : (T.toList == [45]) = false := by rw [hT, Lib.toList_data]; rfl
 have b2 : (T.toList == [94]) = true := by rw [hT, Lib.toList_data]; rfl
 have HT := zz hT
 clear h hE k3 k1 hd ht hn hT hO
 generalize (pk E n).kind = K at *
 obtain ⟨A, hA⟩ : ∃ A, A = (pk E n).at_ := ⟨_, rfl⟩
 rw [<- hA] at *
 clear hA
 have hf := tok_field0
 go_enter Tryz.func195, Tryz.ntmps195
 go_wp2_with (first
  | (go_at_call 88; refine (HP.out _ (by first | exact Below.refl _ _ | assumption)).mono ?_; rintro e w1 ⟨rfl, hb1⟩))
 refine (HSK.out _ (H0.out.fresh (below2 hb1 _ _))).mono ?_
 rintro e w3 ⟨rfl, hr3, hk3⟩
 obtain ⟨hx2, ht2⟩ := begun2 w1 K (pk E n).at_ T 100 89
 have hb2 := below2 hb1 (.cells #[.int .i64 K, .string T, .int .i64 (pk E n).at_] 100) (.cells #[.int .i64 0, .int .i64 (pk E n).at_, .int .i64 0, .string (mkT []), .int .i64 0, .pointer none, .pointer none, .slice none 0 0] 89)
 have hlo := H0.out.lt
 have hsz := hb1.size
 have hne : ¬ w1.heap.size + 1 = rb := by omega
 have hne1 : ¬ w1.heap.size = rb := by omega
 have hx3 := hx2.keeps hk3 hne
 have ht3 := hk3.cell_of ht2 hne1
 have hk03 := (Keeps.of_new hb2).trans hk3
 have hxlt : w1.heap.size + 1 < w3.heap.size := block_lt_of_cell hx3.c0
 have HX3 := zz hx3
 have HT3 := zz ht3
 have HR3 := zz hr3
 have HK3 := zz hk03
 have HB2 := zz hb2
 have HB1 := zz hb1
 have HLO := zz (show rb < w.heap.size /\ w.heap.size <= w1.heap.size from ⟨hlo, hsz⟩)
 have HXL := zz hxlt
 have HNE := zz hne
 clear hx2 ht2 hx3 ht3 hr3 hk3 hk03 hb2 hb1 hlo hsz hne1 hne hxlt
 have HON : Hid (Calls Tryz.prog 195 #[.pointer (some ⟨rb, 0, none⟩), .int .i64 ((dd : Int) + 1)] w3 fun e w' => ∃ r, Ev (fun f => Tr.one E f (dd + 1) (n + 1)) r /\ Says ExV w3 w' rb tv E dep r e) := zz (by have h := HO.out (n + 1) w3 HR3.out (HE.out.keeps HK3.out (fun _ e => Nat.le_of_eq e.symm)); rw [Int.natCast_add] at h; exact h)
 have HSG := zz (one_any T w3 (HE.out.keeps HK3.out (fun _ e => Nat.le_of_eq e.symm)).signs)
 have ht3 := HT3.out
 have hop : writV T.toList 3 17 = op1V [94] := by rw [HT.out, Lib.toList_data]; rfl
 rw [hop] at HSG
 clear hop
 go_wp2_with (go_at_call 206; refine HSG.out.mono ?_; rintro e w9 ⟨rfl, rfl⟩)
 refine (HON.out).mono ?_
 rintro e w4 ⟨r, hev, hsay⟩
 have hev2 := zz (HEV.out r hev)
 cases r with
 | out => exact hsay.elim
 | bad k a =>
  have hsay' : Threw w3 w4 rb k a e := hsay
  obtain ⟨b, rfl⟩ := threw_panic hsay'
  exact ⟨rfl, _, hev2.out, hsay'.own HLO.out.1 HK3.out⟩
 | ok x m =>
  obtain ⟨v, rfl, hx, hr4, hk4⟩ := hsay
  obtain ⟨o, rfl⟩ := ex_ptr hx
  have hx4 := HX3.out.keeps hk4 HNE.out
  have HX4 := zz hx4
  have HXV := zz hx
  have HR4 := zz hr4
  have HK4 := zz hk4
  clear hx4 hx hr4 hk4 hev
  have x0 := HX4.out.c0
  have z0 := HX4.out.z 0
  have x4 := HX4.out.c4
  have z4 := HX4.out.z 4
  have x5 := HX4.out.c5
  have z5 := HX4.out.z 5
  go_wp2_with fail
  go_ret
  have hks := ((((Keeps.refl (fun b => b = w1.heap.size + 1) w4).setCell (S := fun b => b = w1.heap.size + 1) (p := ⟨w1.heap.size + 1, 0, none⟩) (Or.inl rfl) (.int .i64 6)).setCell (S := fun b => b = w1.heap.size + 1) (p := ⟨w1.heap.size + 1, 4, none⟩) (Or.inl rfl) (.int .i64 ((op1V [94]) : Nat))).setCell (S := fun b => b = w1.heap.size + 1) (p := ⟨w1.heap.size + 1, 5, none⟩) (Or.inl rfl) (.pointer o))
  refine ⟨_, hev2.out, _, rfl, (((HX4.out.set0 6).set4 (op1V [94])).set5 (.pointer o)).ex (show w.heap.size <= w1.heap.size + 1 by have := HLO.out.2; omega) ?_, HR4.out.keeps hks (fun b e => by have := HLO.out; have : b = w1.heap.size + 1 := e; omega), (HK3.out.trans HK4.out).trans' hks (fun b h e => by have := HLO.out; have : b = w1.heap.size + 1 := e; omega)⟩
  exact ExIn.mono (fun b _ e => by have h1 : w3.heap.size <= b := e; have := HK3.out.size; show w.heap.size <= b; omega) _ _ (ExIn.keeps HXV.out hks (fun b e e2 => by have h1 : w3.heap.size <= b := e; have h2 : b = w1.heap.size + 1 := e2; have := HXL.out; omega))
theorem rone_un3 {dep : Nat} (hd : dd <= 12) (hO : OneC rb tv E dep (dd + 1)) (w : World) (h : RdAt w rb tv E n dep) (hE : TEnv rb E w) (k3 : (pk E n).kind ≠ 3) (k1 : (pk E n).kind ≠ 1) (ht : (pk E n).text = [33]) : Calls Tryz.prog 195 #[.pointer (some ⟨rb, 0, none⟩), .int .i64 (dd : Nat)] w fun e w' =>
  ∃ r, Ev (fun f => Tr.one E f dd n) r /\ Says ExV w w' rb tv E dep r e := by
 have HP := zz (peeks h)
 have H0 := zz h
 have HE := zz hE
 have hn := pk_lt ht (by decide)
 have HSK : Hid (∀ W, RdAt W rb tv E n dep -> Calls Tryz.prog 94 #[.pointer (some ⟨rb, 0, none⟩)] W fun e w' => e = .returned (tokV (pk E n)) /\ RdAt w' rb tv E (n + 1) dep /\ Keeps (fun b => b = rb) W w') := zz fun W hW => skip_tok W hW hn
 have HO := zz hO
 have HEV : Hid (∀ r, Ev (fun f => Tr.one E f (dd + 1) (n + 1)) r -> Ev (fun f => Tr.one E f dd n) (r.bind fun x m => .ok (.mk 6 (pk E n).at_ 0 (op1V [33]) [] x .nil .nil) m)) := zz fun r hr => Ev.step (h := fun f => (Tr.one E f (dd + 1) (n + 1)).bind fun x m => .ok (.mk 6 (pk E n).at_ 0 (op1V [33]) [] x .nil .nil) m) (fun f => by rw [one_eq, if_neg (by omega), if_neg k3, if_neg k1, ht]; rfl) (Ev.map _ (fun _ _ e => by cases e) hr)
 have hi : (dd : Int) <= 12 := by omega
 have hw : IntKind.i64.wrap ((dd : Int) + 1) = (dd : Int) + 1 := IntWalk.i64_in _ (by omega)
 have i3 : ¬ ((pk E n).kind : Int) = 3 := by omega
 have i1 : ¬ ((pk E n).kind : Int) = 1 := by omega
 unfold tokV at HP HSK
 rw [ht] at HP HSK
 obtain ⟨T, hT⟩ : ∃ T, T = mkT [33] := ⟨_, rfl⟩
 rw [<- hT] at HP HSK
 have b0 : (T.toList == [40]) = false := by rw [hT, Lib.toList_data]; rfl
 have b1 : (T.toList == [45]) = false := by rw [hT, Lib.toList_data]; rfl
 have b2 : (T.toList == [94]) = false := by rw [hT, Lib.toList_data]; rfl
 have b3 : (T.toList == [33]) = true := by rw [hT, Lib.toList_data]; rfl
 have HT := zz hT
 clear h hE k3 k1 hd ht hn hT hO
 generalize (pk E n).kind = K at *
 obtain ⟨A, hA⟩ : ∃ A, A = (pk E n).at_ := ⟨_, rfl⟩
 rw [<- hA] at *
 clear hA
 have hf := tok_field0
 go_enter Tryz.func195, Tryz.ntmps195
 go_wp2_with (first
  | (go_at_call 88; refine (HP.out _ (by first | exact Below.refl _ _ | assumption)).mono ?_; rintro e w1 ⟨rfl, hb1⟩))
 refine (HSK.out _ (H0.out.fresh (below2 hb1 _ _))).mono ?_
 rintro e w3 ⟨rfl, hr3, hk3⟩
 obtain ⟨hx2, ht2⟩ := begun2 w1 K (pk E n).at_ T 100 89
 have hb2 := below2 hb1 (.cells #[.int .i64 K, .string T, .int .i64 (pk E n).at_] 100) (.cells #[.int .i64 0, .int .i64 (pk E n).at_, .int .i64 0, .string (mkT []), .int .i64 0, .pointer none, .pointer none, .slice none 0 0] 89)
 have hlo := H0.out.lt
 have hsz := hb1.size
 have hne : ¬ w1.heap.size + 1 = rb := by omega
 have hne1 : ¬ w1.heap.size = rb := by omega
 have hx3 := hx2.keeps hk3 hne
 have ht3 := hk3.cell_of ht2 hne1
 have hk03 := (Keeps.of_new hb2).trans hk3
 have hxlt : w1.heap.size + 1 < w3.heap.size := block_lt_of_cell hx3.c0
 have HX3 := zz hx3
 have HT3 := zz ht3
 have HR3 := zz hr3
 have HK3 := zz hk03
 have HB2 := zz hb2
 have HB1 := zz hb1
 have HLO := zz (show rb < w.heap.size /\ w.heap.size <= w1.heap.size from ⟨hlo, hsz⟩)
 have HXL := zz hxlt
 have HNE := zz hne
 clear hx2 ht2 hx3 ht3 hr3 hk3 hk03 hb2 hb1 hlo hsz hne1 hne hxlt
 have HON : Hid (Calls Tryz.prog 195 #[.pointer (some ⟨rb, 0, none⟩), .int .i64 ((dd : Int) + 1)] w3 fun e w' => ∃ r, Ev (fun f => Tr.one E f (dd + 1) (n + 1)) r /\ Says ExV w3 w' rb tv E dep r e) := zz (by have h := HO.out (n + 1) w3 HR3.out (HE.out.keeps HK3.out (fun _ e => Nat.le_of_eq e.symm)); rw [Int.natCast_add] at h; exact h)
 have HSG := zz (one_any T w3 (HE.out.keeps HK3.out (fun _ e => Nat.le_of_eq e.symm)).signs)
 have ht3 := HT3.out
 have hop : writV T.toList 3 17 = op1V [33] := by rw [HT.out, Lib.toList_data]; rfl
 rw [hop] at HSG
 clear hop
 go_wp2_with (go_at_call 206; refine HSG.out.mono ?_; rintro e w9 ⟨rfl, rfl⟩)
 refine (HON.out).mono ?_
 rintro e w4 ⟨r, hev, hsay⟩
 have hev2 := zz (HEV.out r hev)
 cases r with
 | out => exact hsay.elim
 | bad k a =>
  have hsay' : Threw w3 w4 rb k a e := hsay
  obtain ⟨b, rfl⟩ := threw_panic hsay'
  exact ⟨rfl, _, hev2.out, hsay'.own HLO.out.1 HK3.out⟩
 | ok x m =>
  obtain ⟨v, rfl, hx, hr4, hk4⟩ := hsay
  obtain ⟨o, rfl⟩ := ex_ptr hx
  have hx4 := HX3.out.keeps hk4 HNE.out
  have HX4 := zz hx4
  have HXV := zz hx
  have HR4 := zz hr4
  have HK4 := zz hk4
  clear hx4 hx hr4 hk4 hev
  have x0 := HX4.out.c0
  have z0 := HX4.out.z 0
  have x4 := HX4.out.c4
  have z4 := HX4.out.z 4
  have x5 := HX4.out.c5
  have z5 := HX4.out.z 5
  go_wp2_with fail
  go_ret
  have hks := ((((Keeps.refl (fun b => b = w1.heap.size + 1) w4).setCell (S := fun b => b = w1.heap.size + 1) (p := ⟨w1.heap.size + 1, 0, none⟩) (Or.inl rfl) (.int .i64 6)).setCell (S := fun b => b = w1.heap.size + 1) (p := ⟨w1.heap.size + 1, 4, none⟩) (Or.inl rfl) (.int .i64 ((op1V [33]) : Nat))).setCell (S := fun b => b = w1.heap.size + 1) (p := ⟨w1.heap.size + 1, 5, none⟩) (Or.inl rfl) (.pointer o))
  refine ⟨_, hev2.out, _, rfl, (((HX4.out.set0 6).set4 (op1V [33])).set5 (.pointer o)).ex (show w.heap.size <= w1.heap.size + 1 by have := HLO.out.2; omega) ?_, HR4.out.keeps hks (fun b e => by have := HLO.out; have : b = w1.heap.size + 1 := e; omega), (HK3.out.trans HK4.out).trans' hks (fun b h e => by have := HLO.out; have : b = w1.heap.size + 1 := e; omega)⟩
  exact ExIn.mono (fun b _ e => by have h1 : w3.heap.size <= b := e; have := HK3.out.size; show w.heap.size <= b; omega) _ _ (ExIn.keeps HXV.out hks (fun b e e2 => by have h1 : w3.heap.size <= b := e; have h2 : b = w1.heap.size + 1 := e2; have := HXL.out; omega))
theorem rone_brack {dep : Nat} (hd : dd <= 12) (hX : ExprC rb tv E dep (dd + 1)) (w : World) (h : RdAt w rb tv E n dep) (hE : TEnv rb E w) (k3 : (pk E n).kind ≠ 3) (k1 : (pk E n).kind ≠ 1) (ht : (pk E n).text = tLp) : Calls Tryz.prog 195 #[.pointer (some ⟨rb, 0, none⟩), .int .i64 (dd : Nat)] w fun e w' =>
  ∃ r, Ev (fun f => Tr.one E f dd n) r /\ Says ExV w w' rb tv E dep r e := by
 have HP := zz (peeks h)
 have H0 := zz h
 have HE := zz hE
 have hn := pk_lt ht (by decide)
 have HSK : Hid (∀ W, RdAt W rb tv E n dep -> Calls Tryz.prog 94 #[.pointer (some ⟨rb, 0, none⟩)] W fun e w' => e = .returned (tokV (pk E n)) /\ RdAt w' rb tv E (n + 1) dep /\ Keeps (fun b => b = rb) W w') := zz fun W hW => skip_tok W hW hn
 have HX := zz hX
 have HDD := zz (show dd <= 20 by omega)
 have HEV : Hid (∀ r, Ev (fun f => bracketed E f dd n) r -> Ev (fun f => Tr.one E f dd n) r) := zz fun r hr => Ev.step (fun f => by rw [one_eq, if_neg (by omega), if_neg k3, if_neg k1, if_pos ht]) hr
 have hi : (dd : Int) <= 12 := by omega
 have hw : IntKind.i64.wrap ((dd : Int) + 1) = (dd : Int) + 1 := IntWalk.i64_in _ (by omega)
 have i3 : ¬ ((pk E n).kind : Int) = 3 := by omega
 have i1 : ¬ ((pk E n).kind : Int) = 1 := by omega
 unfold tokV at HP HSK
 rw [ht] at HP HSK
 obtain ⟨T, hT⟩ : ∃ T, T = mkT tLp := ⟨_, rfl⟩
 rw [<- hT] at HP HSK
 have b0 : (T.toList == [40]) = true := by rw [hT, Lib.toList_data]; rfl
 have HT := zz hT
 clear h hE k3 k1 hd ht hn hT hX HSK
 generalize (pk E n).kind = K at *
 obtain ⟨A, hA⟩ : ∃ A, A = (pk E n).at_ := ⟨_, rfl⟩
 rw [<- hA] at *
 clear hA
 have hf := tok_field0
 go_enter Tryz.func195, Tryz.ntmps195
 go_wp2_with (first
  | (go_at_call 88; refine (HP.out _ (by first | exact Below.refl _ _ | assumption)).mono ?_; rintro e w1 ⟨rfl, hb1⟩))
 have hb2 := below2 hb1 (.cells #[.int .i64 K, .string T, .int .i64 (pk E n).at_] 100) (.cells #[.int .i64 0, .int .i64 (pk E n).at_, .int .i64 0, .string (mkT []), .int .i64 0, .pointer none, .pointer none, .slice none 0 0] 89)
 have HB2 := zz hb2
 clear hb2
 refine (bracketed_any HX.out HDD.out _ (H0.out.fresh HB2.out) (HE.out.fresh HB2.out)).mono ?_
 rintro e w4 ⟨r, hev, hsay⟩
 have hev2 := zz (HEV.out r hev)
 cases r with
 | out => exact hsay.elim
 | bad k a =>
  have hsay' : Threw _ w4 rb k a e := hsay
  obtain ⟨b, rfl⟩ := threw_panic hsay'
  exact ⟨rfl, _, hev2.out, hsay'.own H0.out.lt (Keeps.of_new HB2.out)⟩
 | ok x m =>
  obtain ⟨v, rfl, hx, hr4, hk4⟩ := hsay
  go_wp2_with fail
  go_ret
  exact ⟨_, hev2.out, _, rfl, hx.of HB2.out.size, hr4, (Keeps.of_new HB2.out).trans hk4⟩
theorem rone_bad {dep : Nat} (hd : dd <= 12) (w : World) (h : RdAt w rb tv E n dep) (k3 : (pk E n).kind ≠ 3) (k1 : (pk E n).kind ≠ 1) (q0 : (pk E n).text ≠ tLp) (q1 : (pk E n).text ≠ [45]) (q2 : (pk E n).text ≠ [94]) (q3 : (pk E n).text ≠ [33]) (q4 : (pk E n).text ≠ tArrow) (q5 : (pk E n).text ≠ tMake) (q6 : (pk E n).text ≠ tLen) (q7 : (pk E n).text ≠ tTrue) (q8 : (pk E n).text ≠ tFalse) (q9 : (pk E n).text ≠ tNil) : Calls Tryz.prog 195 #[.pointer (some ⟨rb, 0, none⟩), .int .i64 (dd : Nat)] w fun e w' =>
  ∃ r, Ev (fun f => Tr.one E f dd n) r /\ Says ExV w w' rb tv E dep r e := by
 have HP := zz (peeks h)
 have H0 := zz h
 have HEV : Hid (Ev (fun f => Tr.one E f dd n) (.bad 3 (pk E n).at_)) := zz (Ev.now (fun e => by cases e) fun f => by
  rw [one_eq, if_neg (by omega), if_neg k3, if_neg k1, if_neg q0, if_neg (fun e => by rcases e with e | e | e <;> contradiction), if_neg q4, if_neg q5, if_neg q6, if_neg q7, if_neg q8, if_neg q9]; rfl)
 have hi : (dd : Int) <= 12 := by omega
 have i3 : ¬ ((pk E n).kind : Int) = 3 := by omega
 have i1 : ¬ ((pk E n).kind : Int) = 1 := by omega
 unfold tokV at HP
 obtain ⟨T, hT⟩ : ∃ T, T = mkT (pk E n).text := ⟨_, rfl⟩
 rw [<- hT] at HP
 have b0 : (T.toList == [40]) = false := by rw [hT, text_is]; exact decide_eq_false q0
 have b1 : (T.toList == [45]) = false := by rw [hT, text_is]; exact decide_eq_false q1
 have b2 : (T.toList == [94]) = false := by rw [hT, text_is]; exact decide_eq_false q2
 have b3 : (T.toList == [33]) = false := by rw [hT, text_is]; exact decide_eq_false q3
 have b4 : (T.toList == [60, 45]) = false := by rw [hT, text_is]; exact decide_eq_false q4
 have b5 : (T.toList == [109, 97, 107, 101]) = false := by rw [hT, text_is]; exact decide_eq_false q5
 have b6 : (T.toList == [108, 101, 110]) = false := by rw [hT, text_is]; exact decide_eq_false q6
 have b7 : (T.toList == [116, 114, 117, 101]) = false := by rw [hT, text_is]; exact decide_eq_false q7
 have b8 : (T.toList == [102, 97, 108, 115, 101]) = false := by rw [hT, text_is]; exact decide_eq_false q8
 have b9 : (T.toList == [110, 105, 108]) = false := by rw [hT, text_is]; exact decide_eq_false q9
 clear h k3 k1 hd hT q0 q1 q2 q3 q4 q5 q6 q7 q8 q9
 generalize (pk E n).kind = K at *
 have hf := tok_field0
 go_enter Tryz.func195, Tryz.ntmps195
 go_wp2_with (first
  | (go_at_call 88; refine (HP.out _ (by first | exact Below.refl _ _ | assumption)).mono ?_; rintro e w1 ⟨rfl, hb1⟩))
 have hb2 := below2 hb1 (.cells #[.int .i64 K, .string T, .int .i64 (pk E n).at_] 100) (.cells #[.int .i64 0, .int .i64 (pk E n).at_, .int .i64 0, .string (mkT []), .int .i64 0, .pointer none, .pointer none, .slice none 0 0] 89)
 refine (fail_any 3 _ (H0.out.fresh hb2)).mono ?_
 rintro e w4 hth
 have hth2 := hth.own H0.out.lt (Keeps.of_new hb2)
 obtain ⟨b, rfl⟩ := threw_panic hth
 exact ⟨rfl, _, HEV.out, hth2⟩
theorem expr_of_one {dep : Nat} (hO : OneC rb tv E dep dd) : ExprC rb tv E dep dd :=
 expr_any (tied_any (by decide) (by decide) (fun e => absurd e (by decide)) fun _ => tied_any (by decide) (by decide) (fun e => absurd e (by decide)) fun _ => tied_any (by decide) (by decide) (fun e => absurd e (by decide)) fun _ => tied_any (by decide) (by decide) (fun e => absurd e (by decide)) fun _ => tied_any (by decide) (by decide) (fun e => absurd e (by decide)) fun _ => tied_any (by decide) (by decide) (fun _ => hO) fun e => absurd rfl e)
theorem rone_any {dep : Nat} (hd : dd <= 13) (hX : dd <= 12 -> ExprC rb tv E dep (dd + 1)) (hO : dd <= 12 -> OneC rb tv E dep (dd + 1)) : OneC rb tv E dep dd := by
 by_cases h12 : 12 < dd
 ·exact rone_deep h12
 have hd2 : dd <= 12 := by omega
 intro n w h hE
 by_cases k3 : (pk E n).kind = 3
 ·exact rone_num hd2 w h hE k3
 by_cases k1 : (pk E n).kind = 1
 ·exact rone_name hd2 (call_any (hX hd2) (by omega)) w h hE k1
 by_cases q0 : (pk E n).text = tLp
 ·exact rone_brack hd2 (hX hd2) w h hE k3 k1 q0
 by_cases q1 : (pk E n).text = [45]
 ·exact rone_un1 hd2 (hO hd2) w h hE k3 k1 q1
 by_cases q2 : (pk E n).text = [94]
 ·exact rone_un2 hd2 (hO hd2) w h hE k3 k1 q2
 by_cases q3 : (pk E n).text = [33]
 ·exact rone_un3 hd2 (hO hd2) w h hE k3 k1 q3
 by_cases q4 : (pk E n).text = tArrow
 ·exact rone_recv hd2 (hO hd2) w h hE k3 k1 q4
 by_cases q5 : (pk E n).text = tMake
 ·exact rone_make hd2 (hX hd2) w h hE k3 k1 q5
 by_cases q6 : (pk E n).text = tLen
 ·exact rone_len hd2 (hX hd2) w h hE k3 k1 q6
 by_cases q7 : (pk E n).text = tTrue
 ·exact rone_true hd2 w h hE k3 k1 q7
 by_cases q8 : (pk E n).text = tFalse
 ·exact rone_false hd2 w h hE k3 k1 q8
 by_cases q9 : (pk E n).text = tNil
 ·exact rone_nil hd2 w h hE k3 k1 q9
 exact rone_bad hd2 w h k3 k1 q0 q1 q2 q3 q4 q5 q6 q7 q8 q9
theorem all_any {dep : Nat} : ∀ (q dd : Nat), 13 <= dd + q -> dd <= 13 -> OneC rb tv E dep dd /\ (dd <= 13 -> ExprC rb tv E dep dd)
 | 0, dd, h1, h2 => by
  have hO : OneC rb tv E dep dd := rone_any h2 (fun h => by omega) (fun h => by omega)
  exact ⟨hO, fun _ => expr_of_one hO⟩
 | q + 1, dd, h1, h2 => by
  have hO : OneC rb tv E dep dd := rone_any h2 (fun h => (all_any q (dd + 1) (by omega) (by omega)).2 (by omega)) (fun h => (all_any q (dd + 1) (by omega) (by omega)).1)
  exact ⟨hO, fun _ => expr_of_one hO⟩
theorem ROne {dep : Nat} (h : dd <= 13) : OneC rb tv E dep dd := (all_any 13 dd (by omega) h).1
theorem RExpr {dep : Nat} (h : dd <= 13) : ExprC rb tv E dep dd := (all_any 13 dd (by omega) h).2 h
theorem RCall {dep : Nat} (h : dd <= 12) : CallC rb tv E dep dd := call_any (RExpr (by omega)) (by omega)
structure Blk (w : World) (b : Nat) (vs : List Value) : Prop where
 at_ : ∀ j v, vs[j]? = some v -> w.cell? ⟨b, j, none⟩ = some v
 free : ∀ j, w.frozen? ⟨b, j, none⟩ = false
 lt : b < w.heap.size
theorem Blk.new (w : World) (xs : Array Value) (t : TypeId) : Blk (w.alloc (.cells xs t)) w.heap.size xs.toList :=
 ⟨fun j v h => by rw [World.cell?_alloc_at _ _ _ _ rfl]; simpa using h, fun j => World.frozen?_alloc_new w _ _ _, by simp⟩
theorem Blk.new' (w : World) (xs : List Value) (t : TypeId) {b : Nat} (hb : b = w.heap.size) : Blk (w.alloc (.cells xs.toArray t)) b xs := by
 subst hb; exact Blk.new w xs.toArray t
theorem Blk.keeps {S : Nat -> Prop} {b : Nat} {vs : List Value} (h : Blk w b vs) (hk : Keeps S w w') (hs : ¬ S b) : Blk w' b vs :=
 ⟨fun j v hv => hk.cell_of (h.at_ j v hv) hs, fun j => by rw [hk.frozen (p := ⟨b, j, none⟩) h.lt hs]; exact h.free j, Nat.lt_of_lt_of_le h.lt hk.size⟩
theorem Blk.set {b : Nat} {vs : List Value} (h : Blk w b vs) (i : Nat) (u : Value) (hi : i < vs.length) : Blk (w.setCell ⟨b, i, none⟩ u) b (vs.set i u) := by
 refine ⟨fun j v hv => ?_, fun j => by rw [World.frozen?_setCell]; exact h.free j, by simpa [World.setCell] using h.lt⟩
 by_cases hij : i = j
 ·subst hij
  rw [List.getElem?_set_self hi] at hv
  cases hv
  exact World.cell?_setCell_same _ _ _ (h.at_ i _ (List.getElem?_eq_getElem hi))
 ·rw [List.getElem?_set_ne hij] at hv
  rw [World.cell?_setCell_other _ _ _ _ (off_neq hij b)]
  exact h.at_ j v hv
theorem Blk.own {b : Nat} {vs : List Value} (_ : Blk w b vs) (i : Nat) (u : Value) : Keeps (fun j => j = b) w (w.setCell ⟨b, i, none⟩ u) := (Keeps.refl (fun j => j = b) w).setCell (p := ⟨b, i, none⟩) (Or.inl rfl) u
def StC (w : World) (F : Nat -> Prop) (vs : List Value) : St -> Prop
 | .mk code at_ name dst val thn els cases => ∃ tv vv nv ev cv : Value, vs = [.int .i64 (code : Nat), .int .i64 (at_ : Nat), .string (mkT name), tv, vv, nv, ev, cv] /\ StV w F tv vv nv ev cv dst val thn els cases
def CaC (w : World) (F : Nat -> Prop) (vs : List Value) : Ca -> Prop
 | .mk code at_ name dst val body => ∃ tv vv nv : Value, vs = [.int .i64 (code : Nat), .int .i64 (at_ : Nat), .string (mkT name), tv, vv, nv] /\ ExIn w F tv dst /\ ExIn w F vv val /\ SlAt F nv body.len /\ ∀ g n cap, nv = .slice (some ⟨g, 0, none⟩) n cap -> StsIn w F g 0 body
theorem StC.keeps {F S : Nat -> Prop} {vs : List Value} {s : St} (h : StC w F vs s) (hk : Keeps S w w') (hF : ∀ b, F b -> ¬ S b) : StC w' F vs s := by
 cases s with
 | mk code at_ name dst val thn els cases =>
  obtain ⟨tv, vv, nv, ev, cv, e, h1, h2, h3, h4, h5, h6, h7, h8⟩ := h
  exact ⟨tv, vv, nv, ev, cv, e, h1.keeps hk hF, h2.keeps hk hF, h3, fun g n cap e => StsIn.keeps hk hF g (h3.mem e) 0 thn (h4 g n cap e), h5, fun g n cap e => StsIn.keeps hk hF g (h5.mem e) 0 els (h6 g n cap e), h7, fun g n cap e => CasIn.keeps hk hF g (h7.mem e) 0 cases (h8 g n cap e)⟩
theorem CaC.keeps {F S : Nat -> Prop} {vs : List Value} {s : Ca} (h : CaC w F vs s) (hk : Keeps S w w') (hF : ∀ b, F b -> ¬ S b) : CaC w' F vs s := by
 cases s with
 | mk code at_ name dst val body =>
  obtain ⟨tv, vv, nv, e, h1, h2, h3, h4⟩ := h
  exact ⟨tv, vv, nv, e, h1.keeps hk hF, h2.keeps hk hF, h3, fun g n cap e => StsIn.keeps hk hF g (h3.mem e) 0 body (h4 g n cap e)⟩
def st0 (A : Nat) : List Value := [.int .i64 0, .int .i64 (A : Nat), .string (mkT []), .pointer none, .pointer none, .slice none 0 0, .slice none 0 0, .slice none 0 0]
def st1 (c A : Nat) (name : B) (o p : Option Addr) : List Value := [.int .i64 (c : Nat), .int .i64 (A : Nat), .string (mkT name), .pointer o, .pointer p, .slice none 0 0, .slice none 0 0, .slice none 0 0]
theorem stC_one {F : Nat -> Prop} {c A : Nat} {name : B} {o p : Option Addr} {x y : Ex} (hx : ExIn w F (.pointer o) x) (hy : ExIn w F (.pointer p) y) : StC w F (st1 c A name o p) (stz c A name x y) :=
 ⟨_, _, _, _, _, rfl, hx, hy, Or.inl ⟨rfl, rfl⟩, fun g n cap e => (by cases e), Or.inl ⟨rfl, rfl⟩, fun g n cap e => (by cases e), Or.inl ⟨rfl, rfl⟩, fun g n cap e => (by cases e)⟩
theorem Threw.with {S : Nat -> Prop} {a : World} {k p : Nat} {e : Ending} (h : Threw w w' rb k p e) (hlt : rb < a.heap.size) (hk : Keeps S a w) (hs : ∀ b, S b -> rb <= b) : Threw a w' rb k p e :=
 h.after (hk.below (Nat.le_of_lt hlt) (fun _ _ e => hs _ e))
theorem RdAt.two {sb : Nat} (h : RdAt w rb tv E n d) (hk : Keeps (fun b => b = sb) w w') (hs : rb < sb) : RdAt w' rb tv E n d := h.keeps hk (fun b e => by have : b = sb := e; omega)
theorem put_any {dep sb A : Nat} (c : Nat) (w : World) (h : RdAt w rb tv E n dep) (hE : TEnv rb E w) (hB : Blk w sb (st0 A)) (hs : rb < sb) (hk : (pk E n).kind = 1) (hn : n + 1 < E.toks.length) :
  Calls Tryz.prog 194 #[.pointer (some ⟨rb, 0, none⟩), .pointer (some ⟨sb, 0, none⟩), .int .i64 (c : Nat)] w fun e w' => ∃ r, Ev (fun f => expr E f 0 (n + 2)) r /\ match r with
   | .ok x m => e = .returned (.tuple #[]) /\ (∃ o, Blk w' sb (st1 c A (pk E n).text none o) /\ ExV w w' x (.pointer o)) /\ RdAt w' rb tv E m dep /\ Keeps (fun b => b = rb \/ b = sb) w w'
   | .bad k a => Threw w w' rb k a e
   | .out => False := by
 have HTK := zz (takeKind_tok 1 (by decide) w h)
 have hv : takeKind E 1 n = .ok (pk E n) (n + 1) := by unfold takeKind; rw [if_pos hk]
 rw [hv] at HTK
 have HE := zz hE
 have HB := zz hB
 have HS := zz hs
 have HLT := zz h.lt
 have HN := zz hn
 clear h hE hB hs hk hn hv
 unfold Says TokIs tokV at HTK
 simp only at HTK
 generalize hT : mkT (pk E n).text = T at *
 generalize (pk E n).kind = K at *
 generalize (pk E n).at_ = P at *
 have hf := tok_field1
 go_enter Tryz.func194, Tryz.ntmps194
 go_wp2_with fail
 refine HTK.out.mono ?_
 rintro e w1 ⟨v, rfl, rfl, hr1, hk1⟩
 have hB1 := HB.out.keeps hk1 (fun e => absurd (show sb = rb from e) (by have := HS.out; omega))
 have c0 := hB1.at_ 0 _ rfl
 have c2 := hB1.at_ 2 _ rfl
 have z0 := hB1.free 0
 have z2 := hB1.free 2
 have HB1 := zz hB1
 have HR1 := zz hr1
 have HK1 := zz hk1
 clear hB1 hr1 hk1
 go_wp2_with fail
 have hks := (HB1.out.own 0 (.int .i64 c)).setCell (S := fun b => b = sb) (p := ⟨sb, 2, none⟩) (Or.inl rfl) (.string T)
 have hB2 := (HB1.out.set 0 (.int .i64 c) (by simp [st0])).set 2 (.string T) (by simp [st0])
 refine (skip_tok _ (HR1.out.two hks HS.out) HN.out).mono ?_
 rintro e w3 ⟨rfl, hr3, hk3⟩
 have hB3 := hB2.keeps hk3 (fun e => absurd (show sb = rb from e) (by have := HS.out; omega))
 have hkk : Keeps (fun b => b = rb \/ b = sb) w w3 := ((HK1.out.mono (fun _ _ e => Or.inl e)).trans (hks.mono (fun _ _ e => Or.inr e))).trans (hk3.mono (fun _ _ e => Or.inl e))
 have HB3 := zz hB3
 have HR3 := zz hr3
 have HK3 := zz hkk
 have HX := zz (RExpr (dd := 0) (Nat.zero_le _) (n + 2) w3 hr3 (HE.out.keeps hkk (fun b e => by have := HS.out; omega)))
 clear hks hB2 hr3 hk3 hB3 hkk c0 c2 z0 z2
 unfold tokV
 generalize mkT (pk E (n + 1)).text = T2
 generalize (pk E (n + 1)).kind = K2
 generalize (pk E (n + 1)).at_ = P2
 go_wp2_with fail
 refine HX.out.mono ?_
 rintro e w4 ⟨r, hev, hsay⟩
 have hlt3 : rb < w3.heap.size := HR3.out.lt
 cases r with
 | out => exact hsay.elim
 | bad k a =>
  have hsay' : Threw w3 w4 rb k a e := hsay
  obtain ⟨b, rfl⟩ := threw_panic hsay'
  exact ⟨rfl, .bad k a, hev, hsay'.with HLT.out HK3.out (fun b e => by have := HS.out; omega)⟩
 | ok x m =>
  obtain ⟨v, rfl, hx, hr4, hk4⟩ := hsay
  obtain ⟨o, rfl⟩ := ex_ptr hx
  have hB4 := HB3.out.keeps hk4 (fun e => absurd (show sb = rb from e) (by have := HS.out; omega))
  have c4 := hB4.at_ 4 _ rfl
  have z4 := hB4.free 4
  have HB4 := zz hB4
  have HXV := zz hx
  have HR4 := zz hr4
  have HK4 := zz hk4
  have HEV := zz hev
  clear hB4 hx hr4 hk4 hev
  go_wp2_with fail
  go_end0
  have hks := HB4.out.own 4 (.pointer o)
  have hF := HK3.out.size
  have hlt := HB3.out.lt
  refine ⟨.ok x m, HEV.out, rfl, ⟨o, ?_, ?_⟩, HR4.out.two hks HS.out, (HK3.out.trans (HK4.out.mono (fun _ _ e => Or.inl e))).trans (hks.mono (fun _ _ e => Or.inr e))⟩
  ·have h := HB4.out.set 4 (.pointer o) (by simp [st0])
   rw [<- hT] at h
   exact h
  ·exact ExIn.mono (fun b _ e => Nat.le_trans hF e) _ _ (ExIn.keeps HXV.out hks (fun b e e2 => by have h1 : w3.heap.size <= b := e; have h2 : b = sb := e2; omega))
theorem Blk.fresh {b : Nat} {vs : List Value} (h : Blk w b vs) (hb : Below w.heap.size w w') : Blk w' b vs := h.keeps (S := fun _ => False) (Keeps.of_new hb) id
structure Nn (E : Env) (f : Nat) : Prop where
 one : ∀ d n x m, Tr.one E f d n = .ok x m -> x ≠ .nil
 bracketed : ∀ d n x m, Tr.bracketed E f d n = .ok x m -> x ≠ .nil
 tied : ∀ l d n x m, Tr.tied E f l d n = .ok x m -> x ≠ .nil
 tloop : ∀ l d a n x m, a ≠ .nil -> Tr.tloop E f l d a n = .ok x m -> x ≠ .nil
 named : ∀ d n x m, Tr.named E f d n = .ok x m -> x ≠ .nil
 call : ∀ d t n x m, Tr.call E f d t n = .ok x m -> x ≠ .nil
theorem nns (f : Nat) : Nn E f := by
  induction f with
  | zero =>
    constructor
    · intro _ _ _ _ h; rw [Tr.one] at h; cases h
    · intro _ _ _ _ h; rw [Tr.bracketed] at h; cases h
    · intro _ _ _ _ _ h; rw [Tr.tied] at h; cases h
    · intro _ _ _ _ _ _ _ h; rw [Tr.tloop] at h; cases h
    · intro _ _ _ _ h; rw [Tr.named] at h; cases h
    · intro _ _ _ _ _ h; rw [Tr.call] at h; cases h
  | succ f ih =>
    constructor
    · intro d n x m h
      rw [one_eq] at h
      repeat' split at h
      all_goals first
        | exact (fail_ok h).elim
        | (cases h; intro e; cases e)
        | exact ih.named _ _ _ _ h
        | exact ih.bracketed _ _ _ _ h
        | (obtain ⟨y, k, h1, h2⟩ := bind_ok h
           cases h2
           intro e; cases e)
    · intro d n x m h
      rw [bracketed_eq] at h
      obtain ⟨_, n1, h1, h⟩ := bind_ok h
      obtain ⟨_, n2, h2, h⟩ := bind_ok h
      obtain ⟨_, n3, h3, h⟩ := bind_ok h
      cases h
      exact ih.tied _ _ _ _ _ h2
    · intro l d n x m h
      rw [tied_eq] at h
      split at h
      · exact ih.one _ _ _ _ h
      · obtain ⟨y, n1, h1, h⟩ := bind_ok h
        exact ih.tloop _ _ _ _ _ _ (ih.tied _ _ _ _ _ h1) h
    · intro l d a n x m ha h
      rw [tloop_eq] at h
      split at h
      · obtain ⟨_, n1, h1, h⟩ := bind_ok h
        exact ih.tloop _ _ _ _ _ _ (fun e => by cases e) h
      · cases h; exact ha
    · intro d n x m h
      rw [named_eq] at h
      split at h
      · exact ih.call _ _ _ _ _ h
      · cases h; intro e; cases e
    · intro d t n x m h
      rw [call_eq] at h
      obtain ⟨_, n1, h1, h⟩ := bind_ok h
      split at h
      · cases h; intro e; cases e
      · obtain ⟨_, n2, h2, h⟩ := bind_ok h
        cases h
        intro e; cases e
theorem ev_one_nn {d n m : Nat} {x : Ex} (h : Ev (fun f => Tr.one E f d n) (.ok x m)) : x ≠ .nil := by
 obtain ⟨f, hf⟩ := h.get
 exact (nns f).one _ _ _ _ hf
def FillR (w w' : World) (rb : Nat) (tv : Value) (E : Env) (dep sb : Nat) (r : Res St) (e : Ending) : Prop := match r with
 | .ok s m => e = .returned (.tuple #[]) /\ (∃ vs, Blk w' sb vs /\ StC w' (fun b => w.heap.size <= b) vs s) /\ RdAt w' rb tv E m dep /\ Keeps (fun b => b = rb \/ b = sb) w w'
 | .bad k a => Threw w w' rb k a e
 | .out => False
theorem plain_let (h : (pk E n).kind = 1 /\ (pk E (n + 1)).text = tLet) (f : Nat) : plain E f n = (expr E f 0 (n + 2)).bind fun x m => .ok (stz 1 (pk E n).at_ (pk E n).text .nil x) m := by
 unfold plain; rw [if_pos h]
theorem plain_set (h1 : ¬ ((pk E n).kind = 1 /\ (pk E (n + 1)).text = tLet)) (h : (pk E n).kind = 1 /\ (pk E (n + 1)).text = tSet) (f : Nat) : plain E f n = (expr E f 0 (n + 2)).bind fun x m => .ok (stz 2 (pk E n).at_ (pk E n).text .nil x) m := by
 unfold plain; rw [if_neg h1, if_pos h]
theorem plain_one (h1 : ¬ ((pk E n).kind = 1 /\ (pk E (n + 1)).text = tLet)) (h2 : ¬ ((pk E n).kind = 1 /\ (pk E (n + 1)).text = tSet)) (f : Nat) : plain E f n = (Tr.one E f 0 n).bind fun x m =>
  if (pk E m).text = tArrow then (expr E f 0 (m + 1)).bind fun y m2 => .ok (stz 3 (pk E n).at_ [] x y) m2
  else if codeOf x = 7 \/ codeOf x = 10 then .ok (stz 11 (pk E n).at_ [] .nil x) m
  else fail E 3 m := by
 unfold plain; rw [if_neg h1, if_neg h2]
theorem plain_let_any {dep sb : Nat} (w : World) (h : RdAt w rb tv E n dep) (hE : TEnv rb E w) (hB : Blk w sb (st0 (pk E n).at_)) (hs : rb < sb) (h1 : (pk E n).kind = 1 /\ (pk E (n + 1)).text = tLet) :
  Calls Tryz.prog 179 #[.pointer (some ⟨rb, 0, none⟩), .pointer (some ⟨sb, 0, none⟩)] w fun e w' => ∃ r, Ev (fun f => plain E f n) r /\ FillR w w' rb tv E dep sb r e := by
 have HP := zz (peek_any w h)
 have HA : Hid (∀ W, Below w.heap.size w W -> Calls Tryz.prog 117 #[.pointer (some ⟨rb, 0, none⟩), .int .i64 1] W fun e w' => e = .returned (tokV (pk E (n + 1))) /\ Below w.heap.size w w') :=
  zz fun W hb => (ahead_any 1 W (h.fresh hb) (by omega)).mono fun _ _ ⟨e1, e2⟩ => ⟨e1, hb.trans (e2.mono hb.size)⟩
 have HPUT : Hid (∀ W, Below w.heap.size w W -> Calls Tryz.prog 194 #[.pointer (some ⟨rb, 0, none⟩), .pointer (some ⟨sb, 0, none⟩), .int .i64 ((1 : Nat) : Int)] W fun e w' => ∃ r, Ev (fun f => plain E f n) r /\ FillR w w' rb tv E dep sb r e) := zz fun W hb => by
  refine (put_any 1 W (h.fresh hb) (hE.fresh hb) (hB.fresh hb) hs h1.1 (pk_lt h1.2 (by decide))).mono ?_
  rintro e w2 ⟨r, hev, hsay⟩
  refine ⟨r.bind fun x m => .ok (stz 1 (pk E n).at_ (pk E n).text .nil x) m, ?_, ?_⟩
  ·have h := Ev.map (fun x m => (.ok (stz 1 (pk E n).at_ (pk E n).text .nil x) m : Res St)) (fun _ _ e => by cases e) hev
   exact ⟨h.1, h.2.imp fun f0 hf f hle => by show plain E f n = _; rw [plain_let h1 f]; exact hf f hle⟩
  ·cases r with
   | out => exact hsay.elim
   | bad k a => exact Threw.with (S := fun _ => False) (a := w) (w := W) hsay h.lt (Keeps.of_new hb) (fun b e => e.elim)
   | ok x m =>
    obtain ⟨e1, ⟨o, e2, e3⟩, e4, e5⟩ := hsay
    exact ⟨e1, ⟨_, e2, stC_one rfl (ExIn.mono (fun b _ e => Nat.le_trans hb.size e) _ _ e3)⟩, e4, (Keeps.of_new hb).trans e5⟩
 have hki : ((pk E n).kind : Int) = 1 := by have := h1.1; omega
 unfold tokV at HP HA
 rw [hki] at HP
 obtain ⟨T2, hT2⟩ : ∃ T, T = mkT (pk E (n + 1)).text := ⟨_, rfl⟩
 rw [<- hT2] at HA
 have b1 : (T2.toList == [58, 61]) = true := by rw [hT2, h1.2, Lib.toList_data]; rfl
 clear h hE hB hs h1 hki hT2
 generalize mkT (pk E n).text = T at *
 have hf := tok_field0
 have hf1 := tok_field1
 go_enter Tryz.func179, Tryz.ntmps179
 go_wp2_with (first
  | (go_at_call 88; refine HP.out.mono ?_; rintro e w1 ⟨rfl, hb1⟩)
  | (go_at_call 117; refine (HA.out _ hb1).mono ?_; rintro e w2 ⟨rfl, hb2⟩))
 refine (HPUT.out _ (by assumption)).mono ?_
 rintro e w3 ⟨r, hev, hsay⟩
 cases r with
 | out => exact hsay.elim
 | bad k a =>
  have hsay' : Threw w w3 rb k a e := hsay
  obtain ⟨b, rfl⟩ := threw_panic hsay'
  exact ⟨rfl, .bad k a, hev, hsay'⟩
 | ok x m =>
  have HSY := zz hsay
  obtain ⟨rfl, _⟩ := hsay
  go_wp2_with fail
  try simp only [Exit.inBlock, Exit.then]
  refine bodyPost_ret (results_none rfl _ _ _) rfl ?_
  exact ⟨.ok x m, hev, HSY.out⟩
theorem plain_set_any {dep sb : Nat} (w : World) (h : RdAt w rb tv E n dep) (hE : TEnv rb E w) (hB : Blk w sb (st0 (pk E n).at_)) (hs : rb < sb) (h0 : ¬ ((pk E n).kind = 1 /\ (pk E (n + 1)).text = tLet)) (h1 : (pk E n).kind = 1 /\ (pk E (n + 1)).text = tSet) :
  Calls Tryz.prog 179 #[.pointer (some ⟨rb, 0, none⟩), .pointer (some ⟨sb, 0, none⟩)] w fun e w' => ∃ r, Ev (fun f => plain E f n) r /\ FillR w w' rb tv E dep sb r e := by
 have HP := zz (peek_any w h)
 have HA : Hid (∀ W, Below w.heap.size w W -> Calls Tryz.prog 117 #[.pointer (some ⟨rb, 0, none⟩), .int .i64 1] W fun e w' => e = .returned (tokV (pk E (n + 1))) /\ Below w.heap.size w w') :=
  zz fun W hb => (ahead_any 1 W (h.fresh hb) (by omega)).mono fun _ _ ⟨e1, e2⟩ => ⟨e1, hb.trans (e2.mono hb.size)⟩
 have HPUT : Hid (∀ W, Below w.heap.size w W -> Calls Tryz.prog 194 #[.pointer (some ⟨rb, 0, none⟩), .pointer (some ⟨sb, 0, none⟩), .int .i64 ((2 : Nat) : Int)] W fun e w' => ∃ r, Ev (fun f => plain E f n) r /\ FillR w w' rb tv E dep sb r e) := zz fun W hb => by
  refine (put_any 2 W (h.fresh hb) (hE.fresh hb) (hB.fresh hb) hs h1.1 (pk_lt h1.2 (by decide))).mono ?_
  rintro e w2 ⟨r, hev, hsay⟩
  refine ⟨r.bind fun x m => .ok (stz 2 (pk E n).at_ (pk E n).text .nil x) m, ?_, ?_⟩
  ·have h := Ev.map (fun x m => (.ok (stz 2 (pk E n).at_ (pk E n).text .nil x) m : Res St)) (fun _ _ e => by cases e) hev
   exact ⟨h.1, h.2.imp fun f0 hf f hle => by show plain E f n = _; rw [plain_set h0 h1 f]; exact hf f hle⟩
  ·cases r with
   | out => exact hsay.elim
   | bad k a => exact Threw.with (S := fun _ => False) (a := w) (w := W) hsay h.lt (Keeps.of_new hb) (fun b e => e.elim)
   | ok x m =>
    obtain ⟨e1, ⟨o, e2, e3⟩, e4, e5⟩ := hsay
    exact ⟨e1, ⟨_, e2, stC_one rfl (ExIn.mono (fun b _ e => Nat.le_trans hb.size e) _ _ e3)⟩, e4, (Keeps.of_new hb).trans e5⟩
 have hki : ((pk E n).kind : Int) = 1 := by have := h1.1; omega
 unfold tokV at HP HA
 rw [hki] at HP
 obtain ⟨T2, hT2⟩ : ∃ T, T = mkT (pk E (n + 1)).text := ⟨_, rfl⟩
 rw [<- hT2] at HA
 have b1 : (T2.toList == [61]) = true := by rw [hT2, h1.2, Lib.toList_data]; rfl
 have b0 : (T2.toList == [58, 61]) = false := by rw [hT2, h1.2, Lib.toList_data]; rfl
 clear h hE hB hs h1 hki hT2 h0
 generalize mkT (pk E n).text = T at *
 have hf := tok_field0
 have hf1 := tok_field1
 go_enter Tryz.func179, Tryz.ntmps179
 go_wp2_with (first
  | (go_at_call 88; refine HP.out.mono ?_; rintro e w1 ⟨rfl, hb1⟩)
  | (go_at_call 117; refine (HA.out _ hb1).mono ?_; rintro e w2 ⟨rfl, hb2⟩))
 refine (HPUT.out _ (by assumption)).mono ?_
 rintro e w3 ⟨r, hev, hsay⟩
 cases r with
 | out => exact hsay.elim
 | bad k a =>
  have hsay' : Threw w w3 rb k a e := hsay
  obtain ⟨b, rfl⟩ := threw_panic hsay'
  exact ⟨rfl, .bad k a, hev, hsay'⟩
 | ok x m =>
  have HSY := zz hsay
  obtain ⟨rfl, _⟩ := hsay
  go_wp2_with fail
  try simp only [Exit.inBlock, Exit.then]
  refine bodyPost_ret (results_none rfl _ _ _) rfl ?_
  exact ⟨.ok x m, hev, HSY.out⟩
theorem set_st (A c : Nat) (o p : Option Addr) : (((st0 A).set 0 (.int .i64 (c : Nat))).set 3 (.pointer o)).set 4 (.pointer p) = st1 c A [] o p := rfl
theorem set_st2 (A c : Nat) (p : Option Addr) : ((st0 A).set 0 (.int .i64 (c : Nat))).set 4 (.pointer p) = st1 c A [] none p := rfl
theorem own3 {sb i j k : Nat} {a b c : Value} : Keeps (fun q => q = sb) w (((w.setCell ⟨sb, i, none⟩ a).setCell ⟨sb, j, none⟩ b).setCell ⟨sb, k, none⟩ c) :=
 (((Keeps.refl (fun q => q = sb) w).setCell (S := fun q => q = sb) (p := ⟨sb, i, none⟩) (Or.inl rfl) a).setCell (S := fun q => q = sb) (p := ⟨sb, j, none⟩) (Or.inl rfl) b).setCell (S := fun q => q = sb) (p := ⟨sb, k, none⟩) (Or.inl rfl) c
theorem own2 {sb i j : Nat} {a b : Value} : Keeps (fun q => q = sb) w ((w.setCell ⟨sb, i, none⟩ a).setCell ⟨sb, j, none⟩ b) :=
 ((Keeps.refl (fun q => q = sb) w).setCell (S := fun q => q = sb) (p := ⟨sb, i, none⟩) (Or.inl rfl) a).setCell (S := fun q => q = sb) (p := ⟨sb, j, none⟩) (Or.inl rfl) b
mutual
theorem StIn.mono {F G : Nat -> Prop} (hF : ∀ b, F b -> G b) (b o : Nat) : ∀ (x : St), StIn w F b o x -> StIn w G b o x
 | .mk code at_ name dst val thn els cases, h => by
  obtain ⟨tv, vv, nv, ev, cv, c0, c1, c2, c3, c4, c5, c6, c7, h1, h2, h3, h4, h5, h6, h7, h8⟩ := h
  have slm : ∀ (v : Value) (k : Nat), SlAt F v k -> SlAt G v k := fun v k h => by
   rcases h with h | ⟨g, cap, a1, a2, a3, a4, a5⟩
   ·exact Or.inl h
   ·exact Or.inr ⟨g, cap, a1, a2, a3, a4, hF g a5⟩
  exact ⟨tv, vv, nv, ev, cv, c0, c1, c2, c3, c4, c5, c6, c7, ExIn.mono (fun b _ h => hF b h) _ _ h1, ExIn.mono (fun b _ h => hF b h) _ _ h2, slm _ _ h3, fun g n cap e => StsIn.mono hF g 0 thn (h4 g n cap e), slm _ _ h5, fun g n cap e => StsIn.mono hF g 0 els (h6 g n cap e), slm _ _ h7, fun g n cap e => CasIn.mono hF g 0 cases (h8 g n cap e)⟩
theorem StsIn.mono {F G : Nat -> Prop} (hF : ∀ b, F b -> G b) (g : Nat) : ∀ (i : Nat) (xs : Sts), StsIn w F g i xs -> StsIn w G g i xs
 | _, .nil, _ => trivial
 | i, .cons x xs, h => ⟨StIn.mono hF g (i * 8) x h.1, StsIn.mono hF g (i + 1) xs h.2⟩
theorem CaIn.mono {F G : Nat -> Prop} (hF : ∀ b, F b -> G b) (b o : Nat) : ∀ (x : Ca), CaIn w F b o x -> CaIn w G b o x
 | .mk code at_ name dst val body, h => by
  obtain ⟨tv, vv, nv, c0, c1, c2, c3, c4, c5, h1, h2, h3, h4⟩ := h
  have slm : ∀ (v : Value) (k : Nat), SlAt F v k -> SlAt G v k := fun v k h => by
   rcases h with h | ⟨g, cap, a1, a2, a3, a4, a5⟩
   ·exact Or.inl h
   ·exact Or.inr ⟨g, cap, a1, a2, a3, a4, hF g a5⟩
  exact ⟨tv, vv, nv, c0, c1, c2, c3, c4, c5, ExIn.mono (fun b _ h => hF b h) _ _ h1, ExIn.mono (fun b _ h => hF b h) _ _ h2, slm _ _ h3, fun g n cap e => StsIn.mono hF g 0 body (h4 g n cap e)⟩
theorem CasIn.mono {F G : Nat -> Prop} (hF : ∀ b, F b -> G b) (g : Nat) : ∀ (i : Nat) (xs : Cas), CasIn w F g i xs -> CasIn w G g i xs
 | _, .nil, _ => trivial
 | i, .cons x xs, h => ⟨CaIn.mono hF g (i * 6) x h.1, CasIn.mono hF g (i + 1) xs h.2⟩
end
theorem fill_end {dep sb m : Nat} {vs : List Value} {s : St} {w1 w2 : World} {F : Nat -> Prop} (hB : Blk w2 sb vs) (hC : StC w1 F vs s) (hF : ∀ b, F b -> w.heap.size <= b) (hR : RdAt w1 rb tv E m dep) (hk : Keeps (fun b => b = rb \/ b = sb) w w1) (hks : Keeps (fun b => b = sb) w1 w2) (hs : rb < sb) (hsl : sb < w.heap.size) :
  (∃ vs, Blk w2 sb vs /\ StC w2 (fun b => w.heap.size <= b) vs s) /\ RdAt w2 rb tv E m dep /\ Keeps (fun b => b = rb \/ b = sb) w w2 := by
 refine ⟨⟨vs, hB, ?_⟩, hR.two hks hs, hk.trans (hks.mono (fun _ _ e => Or.inr e))⟩
 have h1 : StC w2 F vs s := hC.keeps hks (fun b e e2 => by have := hF b e; have : b = sb := e2; omega)
 cases s with
 | mk code at_ name dst val thn els cases =>
  obtain ⟨tv, vv, nv, ev, cv, e, h1, h2, h3, h4, h5, h6, h7, h8⟩ := h1
  have slm : ∀ (v : Value) (k : Nat), SlAt F v k -> SlAt (fun b => w.heap.size <= b) v k := fun v k h => by
   rcases h with h | ⟨g, cap, a1, a2, a3, a4, a5⟩
   ·exact Or.inl h
   ·exact Or.inr ⟨g, cap, a1, a2, a3, a4, hF g a5⟩
  exact ⟨tv, vv, nv, ev, cv, e, ExIn.mono (fun b _ h => hF b h) _ _ h1, ExIn.mono (fun b _ h => hF b h) _ _ h2, slm _ _ h3, fun g n cap e => StsIn.mono (fun b h => hF b h) g 0 thn (h4 g n cap e), slm _ _ h5, fun g n cap e => StsIn.mono (fun b h => hF b h) g 0 els (h6 g n cap e), slm _ _ h7, fun g n cap e => CasIn.mono (fun b h => hF b h) g 0 cases (h8 g n cap e)⟩
theorem plain_one_any {dep sb : Nat} (w : World) (h : RdAt w rb tv E n dep) (hE : TEnv rb E w) (hB : Blk w sb (st0 (pk E n).at_)) (hs : rb < sb) (h1 : ¬ ((pk E n).kind = 1 /\ (pk E (n + 1)).text = tLet)) (h2 : ¬ ((pk E n).kind = 1 /\ (pk E (n + 1)).text = tSet)) :
  Calls Tryz.prog 179 #[.pointer (some ⟨rb, 0, none⟩), .pointer (some ⟨sb, 0, none⟩)] w fun e w' => ∃ r, Ev (fun f => plain E f n) r /\ FillR w w' rb tv E dep sb r e := by
 have HP := zz (peek_any w h)
 have HA : Hid (∀ W, Below w.heap.size w W -> Calls Tryz.prog 117 #[.pointer (some ⟨rb, 0, none⟩), .int .i64 1] W fun e w' => e = .returned (tokV (pk E (n + 1))) /\ Below w.heap.size w w') :=
  zz fun W hb => (ahead_any 1 W (h.fresh hb) (by omega)).mono fun _ _ ⟨e1, e2⟩ => ⟨e1, hb.trans (e2.mono hb.size)⟩
 have HON : Hid (∀ W, Below w.heap.size w W -> Calls Tryz.prog 195 #[.pointer (some ⟨rb, 0, none⟩), .int .i64 0] W fun e w' => ∃ r, Ev (fun f => Tr.one E f 0 n) r /\ Says ExV W w' rb tv E dep r e) := zz fun W hb => ROne (dd := 0) (Nat.zero_le _) n W (h.fresh hb) (hE.fresh hb)
 have HEV : Hid (∀ r, Ev (fun f => (Tr.one E f 0 n).bind fun x m =>
  if (pk E m).text = tArrow then (expr E f 0 (m + 1)).bind fun y m2 => .ok (stz 3 (pk E n).at_ [] x y) m2
  else if codeOf x = 7 \/ codeOf x = 10 then .ok (stz 11 (pk E n).at_ [] .nil x) m
  else fail E 3 m) r -> Ev (fun f => plain E f n) r) := zz fun r hr => ⟨hr.1, hr.2.imp fun f0 hf f hle => by show plain E f n = _; rw [plain_one h1 h2 f]; exact hf f hle⟩
 have HE := zz hE
 have HB := zz hB
 have HS := zz hs
 have HLT := zz h.lt
 have e60 : (⟨#[60, 45]⟩ : ByteArray).data.toList = tArrow := rfl
 have hf := tok_field0
 have hf1 := tok_field1
 unfold tokV at HP HA
 clear h hE hB hs
 by_cases hk : (pk E n).kind = 1
 ·have hki : ((pk E n).kind : Int) = 1 := by omega
  have q1 : (pk E (n + 1)).text ≠ tLet := fun e => h1 ⟨hk, e⟩
  have q2 : (pk E (n + 1)).text ≠ tSet := fun e => h2 ⟨hk, e⟩
  rw [hki] at HP
  obtain ⟨T2, hT2⟩ : ∃ T, T = mkT (pk E (n + 1)).text := ⟨_, rfl⟩
  rw [<- hT2] at HA
  have b1 : (T2.toList == [58, 61]) = false := by rw [hT2, text_is]; exact decide_eq_false q1
  have b0 : (T2.toList == [61]) = false := by rw [hT2, text_is]; exact decide_eq_false q2
  clear h1 h2 hk hki q1 q2 hT2
  generalize mkT (pk E n).text = T at *
  go_enter Tryz.func179, Tryz.ntmps179
  go_wp2_with (first
   | (go_at_call 88; refine HP.out.mono ?_; rintro e w1 ⟨rfl, hb1⟩)
   | (go_at_call 117; refine (HA.out _ hb1).mono ?_; clear hb1; rintro e w1 ⟨rfl, hb1⟩))
  clear HA
  have HB1 := zz hb1
  refine (HON.out _ HB1.out).mono ?_
  rintro e w2 ⟨r, hev, hsay⟩
  clear hb1 HP
  cases r with
  | out => exact hsay.elim
  | bad k a =>
   have hsay' : Threw w1 w2 rb k a e := hsay
   obtain ⟨b, rfl⟩ := threw_panic hsay'
   exact ⟨rfl, .bad k a, HEV.out _ (Ev.bad hev), hsay'.with (S := fun _ => False) HLT.out (Keeps.of_new HB1.out) (fun b e => e.elim)⟩
  | ok x m =>
   obtain ⟨v, rfl, hx, hr2, hk2⟩ := hsay
   obtain ⟨o, rfl⟩ := ex_ptr hx
   have hnn := ev_one_nn hev
   have hkw : Keeps (fun b => b = rb \/ b = sb) w w2 := (Keeps.of_new HB1.out).trans (hk2.mono (fun _ _ e => Or.inl e))
   have hB2 := (HB.out.fresh HB1.out).keeps hk2 (fun e => absurd (show sb = rb from e) (by have := HS.out; omega))
   have hx' : ExV w w2 x (.pointer o) := hx.of HB1.out.size
   have hE2 := (HE.out.fresh HB1.out).own hk2
   have HXV := zz hx'
   have HK2 := zz hkw
   have HB2 := zz hB2
   have HE2 := zz hE2
   have HTI := takeIf_tok ⟨#[60, 45]⟩ (by decide) w2 hr2
   rw [e60] at HTI
   have HI := zz HTI
   have HEV1 := zz hev
   have HNN := zz hnn
   have HSZ := zz hkw.size
   clear hx hx' hr2 hk2 hkw hB2 hE2 HTI hev hnn
   go_wp2_with fail
   by_cases hc : (pk E m).text = tArrow
   ·have hv : takeIfV E tArrow m = m + 1 := by unfold takeIfV; rw [if_pos hc]
    rw [hv, decide_eq_true hc] at HI
    have HC := zz hc
    clear hv hc
    refine HI.out.mono ?_
    rintro e w3 ⟨rfl, hr3, hk3⟩
    have hB3 := HB2.out.keeps hk3 (fun e => absurd (show sb = rb from e) (by have := HS.out; omega))
    have hx3 := HXV.out.on HLT.out hk3
    have hk03 := HK2.out.trans (hk3.mono (fun _ _ e => Or.inl e))
    have HB3 := zz hB3
    have HX3 := zz hx3
    have HK3 := zz hk03
    have HXP := zz (RExpr (dd := 0) (Nat.zero_le _) (m + 1) w3 hr3 (HE2.out.own hk3))
    clear hr3 hk3 hB3 hx3 hk03
    go_wp2_with fail
    refine HXP.out.mono ?_
    rintro e w4 ⟨r, hev, hsay⟩
    cases r with
    | out => exact hsay.elim
    | bad k a =>
     have hsay' : Threw w3 w4 rb k a e := hsay
     obtain ⟨b, rfl⟩ := threw_panic hsay'
     refine ⟨rfl, .bad k a, HEV.out _ (Ev.then HEV1.out ?_), hsay'.with HLT.out HK3.out (fun b e => by have := HS.out; omega)⟩
     simp only [if_pos HC.out]
     exact Ev.bad hev
    | ok y m2 =>
     obtain ⟨v4, rfl, hx4, hr4, hk4⟩ := hsay
     obtain ⟨o2, rfl⟩ := ex_ptr hx4
     have hB4 := HB3.out.keeps hk4 (fun e => absurd (show sb = rb from e) (by have := HS.out; omega))
     have c0 := hB4.at_ 0 _ rfl
     have c3 := hB4.at_ 3 _ rfl
     have c4 := hB4.at_ 4 _ rfl
     have z0 := hB4.free 0
     have z3 := hB4.free 3
     have z4 := hB4.free 4
     have HB4 := zz hB4
     have HX4 := zz hx4
     have HR4 := zz hr4
     have HK4 := zz hk4
     have HEV4 := zz hev
     clear hB4 hx4 hr4 hk4 hev
     go_wp2_with fail
     go_end0
     refine ⟨.ok (stz 3 (pk E n).at_ [] x y) m2, HEV.out _ (Ev.then HEV1.out ?_), rfl, ?_⟩
     ·simp only [if_pos HC.out]
      exact Ev.then HEV4.out (Ev.pure (fun e => by cases e) fun _ => rfl)
     ·have h5 := (((HB4.out.set 0 (.int .i64 (3 : Nat)) (by simp [st0])).set 3 (.pointer o) (by simp [st0])).set 4 (.pointer o2) (by simp [st0]))
      rw [set_st] at h5
      exact fill_end h5 (stC_one (F := fun b => w.heap.size <= b) (HX3.out.on HLT.out HK4.out) (HX4.out.of HK3.out.size) ) (fun _ e => e) HR4.out (HK3.out.trans (HK4.out.mono (fun _ _ e => Or.inl e))) own3 HS.out HB.out.lt
   ·have hv : takeIfV E tArrow m = m := by unfold takeIfV; rw [if_neg hc]
    rw [hv, decide_eq_false hc] at HI
    have HC := zz hc
    clear hv hc
    refine HI.out.mono ?_
    rintro e w3 ⟨rfl, hr3, hk3⟩
    have hB3 := HB2.out.keeps hk3 (fun e => absurd (show sb = rb from e) (by have := HS.out; omega))
    have hx3 := HXV.out.on HLT.out hk3
    have hk03 := HK2.out.trans (hk3.mono (fun _ _ e => Or.inl e))
    cases x with
    | nil => exact absurd rfl HNN.out
    | mk code at2 num op nm l r ar =>
     have hx3' := hx3
     obtain ⟨b, lv, rv, av, e, hb, x0, _⟩ := hx3'
     cases e
     have c0 := hB3.at_ 0 _ rfl
     have c4 := hB3.at_ 4 _ rfl
     have z0 := hB3.free 0
     have z4 := hB3.free 4
     have HB3 := zz hB3
     have HX3 := zz hx3
     have HK3 := zz hk03
     have HR3 := zz hr3
     have HSB := zz hb
     have hne : (⟨b, 0, none⟩ : Addr).block ≠ (⟨sb, 0, none⟩ : Addr).block := by have h1 : w.heap.size <= b := hb; have := HB.out.lt; show b ≠ sb; omega
     clear hr3 hk3 hB3 hx3 hk03 hb
     by_cases h7 : (code : Int) = 7
     ·have e7 : ((code : Int) == 7) = true := by rw [h7]; rfl
      have HC7 : Hid (code = 7 \/ code = 10) := zz (by omega)
      clear h7
      go_wp2_with fail
      go_end0
      refine ⟨.ok (stz 11 (pk E n).at_ [] .nil (.mk code at2 num op nm l r ar)) m, HEV.out _ (Ev.then HEV1.out ?_), rfl, ?_⟩
      ·simp only [if_neg HC.out]
       rw [if_pos (show codeOf (.mk code at2 num op nm l r ar) = 7 \/ codeOf (.mk code at2 num op nm l r ar) = 10 from HC7.out)]
       exact Ev.pure (fun e => by cases e) fun _ => rfl
      ·have h5 := (HB3.out.set 0 (.int .i64 (11 : Nat)) (by simp [st0])).set 4 (.pointer (some ⟨b, 0, none⟩)) (by simp [st0])
       rw [set_st2] at h5
       exact fill_end h5 (stC_one (F := fun b => w.heap.size <= b) rfl HX3.out) (fun _ e => e) HR3.out HK3.out own2 HS.out HB.out.lt
     ·have e7 : ((code : Int) == 7) = false := beq_eq_false_iff_ne.2 h7
      by_cases h10 : (code : Int) = 10
      ·have e10 : ((code : Int) == 10) = true := by rw [h10]; rfl
       have HC7 : Hid (code = 7 \/ code = 10) := zz (by omega)
       clear h7 h10
       go_wp2_with fail
       go_end0
       refine ⟨.ok (stz 11 (pk E n).at_ [] .nil (.mk code at2 num op nm l r ar)) m, HEV.out _ (Ev.then HEV1.out ?_), rfl, ?_⟩
       ·simp only [if_neg HC.out]
        rw [if_pos (show codeOf (.mk code at2 num op nm l r ar) = 7 \/ codeOf (.mk code at2 num op nm l r ar) = 10 from HC7.out)]
        exact Ev.pure (fun e => by cases e) fun _ => rfl
       ·have h5 := (HB3.out.set 0 (.int .i64 (11 : Nat)) (by simp [st0])).set 4 (.pointer (some ⟨b, 0, none⟩)) (by simp [st0])
        rw [set_st2] at h5
        exact fill_end h5 (stC_one (F := fun b => w.heap.size <= b) rfl HX3.out) (fun _ e => e) HR3.out HK3.out own2 HS.out HB.out.lt
      ·have e10 : ((code : Int) == 10) = false := beq_eq_false_iff_ne.2 h10
       have HC7 : Hid (¬ (code = 7 \/ code = 10)) := zz (by omega)
       clear h7 h10
       have HF := zz (fail_any 3 w3 HR3.out)
       go_wp2_with fail
       refine HF.out.mono ?_
       rintro e w4 hth
       have hth2 := hth.with HLT.out HK3.out (fun b e => by have := HS.out; omega)
       obtain ⟨b2, rfl⟩ := threw_panic hth
       refine ⟨rfl, .bad 3 (pk E m).at_, HEV.out _ (Ev.then HEV1.out ?_), hth2⟩
       simp only [if_neg HC.out]
       rw [if_neg (show ¬ (codeOf (.mk code at2 num op nm l r ar) = 7 \/ codeOf (.mk code at2 num op nm l r ar) = 10) from HC7.out)]
       exact Ev.pure (fun e => by cases e) fun _ => rfl
 ·have hki : ¬ ((pk E n).kind : Int) = 1 := by omega
  clear h1 h2 hk HA
  generalize mkT (pk E n).text = T at *
  generalize (pk E n).kind = K at *
  go_enter Tryz.func179, Tryz.ntmps179
  go_wp2_with (go_at_call 88; refine HP.out.mono ?_; rintro e w1 ⟨rfl, hb1⟩)
  have HB1 := zz hb1
  refine (HON.out _ HB1.out).mono ?_
  rintro e w2 ⟨r, hev, hsay⟩
  clear hb1 HP
  cases r with
  | out => exact hsay.elim
  | bad k a =>
   have hsay' : Threw w1 w2 rb k a e := hsay
   obtain ⟨b, rfl⟩ := threw_panic hsay'
   exact ⟨rfl, .bad k a, HEV.out _ (Ev.bad hev), hsay'.with (S := fun _ => False) HLT.out (Keeps.of_new HB1.out) (fun b e => e.elim)⟩
  | ok x m =>
   obtain ⟨v, rfl, hx, hr2, hk2⟩ := hsay
   obtain ⟨o, rfl⟩ := ex_ptr hx
   have hnn := ev_one_nn hev
   have hkw : Keeps (fun b => b = rb \/ b = sb) w w2 := (Keeps.of_new HB1.out).trans (hk2.mono (fun _ _ e => Or.inl e))
   have hB2 := (HB.out.fresh HB1.out).keeps hk2 (fun e => absurd (show sb = rb from e) (by have := HS.out; omega))
   have hx' : ExV w w2 x (.pointer o) := hx.of HB1.out.size
   have hE2 := (HE.out.fresh HB1.out).own hk2
   have HXV := zz hx'
   have HK2 := zz hkw
   have HB2 := zz hB2
   have HE2 := zz hE2
   have HTI := takeIf_tok ⟨#[60, 45]⟩ (by decide) w2 hr2
   rw [e60] at HTI
   have HI := zz HTI
   have HEV1 := zz hev
   have HNN := zz hnn
   have HSZ := zz hkw.size
   clear hx hx' hr2 hk2 hkw hB2 hE2 HTI hev hnn
   go_wp2_with fail
   by_cases hc : (pk E m).text = tArrow
   ·have hv : takeIfV E tArrow m = m + 1 := by unfold takeIfV; rw [if_pos hc]
    rw [hv, decide_eq_true hc] at HI
    have HC := zz hc
    clear hv hc
    refine HI.out.mono ?_
    rintro e w3 ⟨rfl, hr3, hk3⟩
    have hB3 := HB2.out.keeps hk3 (fun e => absurd (show sb = rb from e) (by have := HS.out; omega))
    have hx3 := HXV.out.on HLT.out hk3
    have hk03 := HK2.out.trans (hk3.mono (fun _ _ e => Or.inl e))
    have HB3 := zz hB3
    have HX3 := zz hx3
    have HK3 := zz hk03
    have HXP := zz (RExpr (dd := 0) (Nat.zero_le _) (m + 1) w3 hr3 (HE2.out.own hk3))
    clear hr3 hk3 hB3 hx3 hk03
    go_wp2_with fail
    refine HXP.out.mono ?_
    rintro e w4 ⟨r, hev, hsay⟩
    cases r with
    | out => exact hsay.elim
    | bad k a =>
     have hsay' : Threw w3 w4 rb k a e := hsay
     obtain ⟨b, rfl⟩ := threw_panic hsay'
     refine ⟨rfl, .bad k a, HEV.out _ (Ev.then HEV1.out ?_), hsay'.with HLT.out HK3.out (fun b e => by have := HS.out; omega)⟩
     simp only [if_pos HC.out]
     exact Ev.bad hev
    | ok y m2 =>
     obtain ⟨v4, rfl, hx4, hr4, hk4⟩ := hsay
     obtain ⟨o2, rfl⟩ := ex_ptr hx4
     have hB4 := HB3.out.keeps hk4 (fun e => absurd (show sb = rb from e) (by have := HS.out; omega))
     have c0 := hB4.at_ 0 _ rfl
     have c3 := hB4.at_ 3 _ rfl
     have c4 := hB4.at_ 4 _ rfl
     have z0 := hB4.free 0
     have z3 := hB4.free 3
     have z4 := hB4.free 4
     have HB4 := zz hB4
     have HX4 := zz hx4
     have HR4 := zz hr4
     have HK4 := zz hk4
     have HEV4 := zz hev
     clear hB4 hx4 hr4 hk4 hev
     go_wp2_with fail
     go_end0
     refine ⟨.ok (stz 3 (pk E n).at_ [] x y) m2, HEV.out _ (Ev.then HEV1.out ?_), rfl, ?_⟩
     ·simp only [if_pos HC.out]
      exact Ev.then HEV4.out (Ev.pure (fun e => by cases e) fun _ => rfl)
     ·have h5 := (((HB4.out.set 0 (.int .i64 (3 : Nat)) (by simp [st0])).set 3 (.pointer o) (by simp [st0])).set 4 (.pointer o2) (by simp [st0]))
      rw [set_st] at h5
      exact fill_end h5 (stC_one (F := fun b => w.heap.size <= b) (HX3.out.on HLT.out HK4.out) (HX4.out.of HK3.out.size) ) (fun _ e => e) HR4.out (HK3.out.trans (HK4.out.mono (fun _ _ e => Or.inl e))) own3 HS.out HB.out.lt
   ·have hv : takeIfV E tArrow m = m := by unfold takeIfV; rw [if_neg hc]
    rw [hv, decide_eq_false hc] at HI
    have HC := zz hc
    clear hv hc
    refine HI.out.mono ?_
    rintro e w3 ⟨rfl, hr3, hk3⟩
    have hB3 := HB2.out.keeps hk3 (fun e => absurd (show sb = rb from e) (by have := HS.out; omega))
    have hx3 := HXV.out.on HLT.out hk3
    have hk03 := HK2.out.trans (hk3.mono (fun _ _ e => Or.inl e))
    cases x with
    | nil => exact absurd rfl HNN.out
    | mk code at2 num op nm l r ar =>
     have hx3' := hx3
     obtain ⟨b, lv, rv, av, e, hb, x0, _⟩ := hx3'
     cases e
     have c0 := hB3.at_ 0 _ rfl
     have c4 := hB3.at_ 4 _ rfl
     have z0 := hB3.free 0
     have z4 := hB3.free 4
     have HB3 := zz hB3
     have HX3 := zz hx3
     have HK3 := zz hk03
     have HR3 := zz hr3
     have HSB := zz hb
     have hne : (⟨b, 0, none⟩ : Addr).block ≠ (⟨sb, 0, none⟩ : Addr).block := by have h1 : w.heap.size <= b := hb; have := HB.out.lt; show b ≠ sb; omega
     clear hr3 hk3 hB3 hx3 hk03 hb
     by_cases h7 : (code : Int) = 7
     ·have e7 : ((code : Int) == 7) = true := by rw [h7]; rfl
      have HC7 : Hid (code = 7 \/ code = 10) := zz (by omega)
      clear h7
      go_wp2_with fail
      go_end0
      refine ⟨.ok (stz 11 (pk E n).at_ [] .nil (.mk code at2 num op nm l r ar)) m, HEV.out _ (Ev.then HEV1.out ?_), rfl, ?_⟩
      ·simp only [if_neg HC.out]
       rw [if_pos (show codeOf (.mk code at2 num op nm l r ar) = 7 \/ codeOf (.mk code at2 num op nm l r ar) = 10 from HC7.out)]
       exact Ev.pure (fun e => by cases e) fun _ => rfl
      ·have h5 := (HB3.out.set 0 (.int .i64 (11 : Nat)) (by simp [st0])).set 4 (.pointer (some ⟨b, 0, none⟩)) (by simp [st0])
       rw [set_st2] at h5
       exact fill_end h5 (stC_one (F := fun b => w.heap.size <= b) rfl HX3.out) (fun _ e => e) HR3.out HK3.out own2 HS.out HB.out.lt
     ·have e7 : ((code : Int) == 7) = false := beq_eq_false_iff_ne.2 h7
      by_cases h10 : (code : Int) = 10
      ·have e10 : ((code : Int) == 10) = true := by rw [h10]; rfl
       have HC7 : Hid (code = 7 \/ code = 10) := zz (by omega)
       clear h7 h10
       go_wp2_with fail
       go_end0
       refine ⟨.ok (stz 11 (pk E n).at_ [] .nil (.mk code at2 num op nm l r ar)) m, HEV.out _ (Ev.then HEV1.out ?_), rfl, ?_⟩
       ·simp only [if_neg HC.out]
        rw [if_pos (show codeOf (.mk code at2 num op nm l r ar) = 7 \/ codeOf (.mk code at2 num op nm l r ar) = 10 from HC7.out)]
        exact Ev.pure (fun e => by cases e) fun _ => rfl
       ·have h5 := (HB3.out.set 0 (.int .i64 (11 : Nat)) (by simp [st0])).set 4 (.pointer (some ⟨b, 0, none⟩)) (by simp [st0])
        rw [set_st2] at h5
        exact fill_end h5 (stC_one (F := fun b => w.heap.size <= b) rfl HX3.out) (fun _ e => e) HR3.out HK3.out own2 HS.out HB.out.lt
      ·have e10 : ((code : Int) == 10) = false := beq_eq_false_iff_ne.2 h10
       have HC7 : Hid (¬ (code = 7 \/ code = 10)) := zz (by omega)
       clear h7 h10
       have HF := zz (fail_any 3 w3 HR3.out)
       go_wp2_with fail
       refine HF.out.mono ?_
       rintro e w4 hth
       have hth2 := hth.with HLT.out HK3.out (fun b e => by have := HS.out; omega)
       obtain ⟨b2, rfl⟩ := threw_panic hth
       refine ⟨rfl, .bad 3 (pk E m).at_, HEV.out _ (Ev.then HEV1.out ?_), hth2⟩
       simp only [if_neg HC.out]
       rw [if_neg (show ¬ (codeOf (.mk code at2 num op nm l r ar) = 7 \/ codeOf (.mk code at2 num op nm l r ar) = 10) from HC7.out)]
       exact Ev.pure (fun e => by cases e) fun _ => rfl
theorem plain_any {dep sb : Nat} (w : World) (h : RdAt w rb tv E n dep) (hE : TEnv rb E w) (hB : Blk w sb (st0 (pk E n).at_)) (hs : rb < sb) :
  Calls Tryz.prog 179 #[.pointer (some ⟨rb, 0, none⟩), .pointer (some ⟨sb, 0, none⟩)] w fun e w' => ∃ r, Ev (fun f => plain E f n) r /\ FillR w w' rb tv E dep sb r e := by
 by_cases h1 : (pk E n).kind = 1 /\ (pk E (n + 1)).text = tLet
 ·exact plain_let_any w h hE hB hs h1
 by_cases h2 : (pk E n).kind = 1 /\ (pk E (n + 1)).text = tSet
 ·exact plain_set_any w h hE hB hs h1 h2
 ·exact plain_one_any w h hE hB hs h1 h2
def retV (E : Env) (f n : Nat) : Res St := if (pk E (n + 1)).kind = 5 \/ (pk E (n + 1)).text = tRb then .ok (stz 8 (pk E n).at_ [] .nil .nil) (n + 1) else (expr E f 0 (n + 1)).bind fun x m => .ok (stz 8 (pk E n).at_ [] .nil x) m
theorem own1 {sb i : Nat} {a : Value} : Keeps (fun q => q = sb) w (w.setCell ⟨sb, i, none⟩ a) := (Keeps.refl (fun q => q = sb) w).setCell (S := fun q => q = sb) (p := ⟨sb, i, none⟩) (Or.inl rfl) a
theorem giveBack_any {dep sb : Nat} (w : World) (h : RdAt w rb tv E n dep) (hE : TEnv rb E w) (hB : Blk w sb (st0 (pk E n).at_)) (hs : rb < sb) (ht : (pk E n).text = tReturn) :
  Calls Tryz.prog 176 #[.pointer (some ⟨rb, 0, none⟩), .pointer (some ⟨sb, 0, none⟩)] w fun e w' => ∃ r, Ev (fun f => retV E f n) r /\ FillR w w' rb tv E dep sb r e := by
 have HTK := take_tok ⟨#[114, 101, 116, 117, 114, 110]⟩ (by decide) w h
 have e1 : (⟨#[114, 101, 116, 117, 114, 110]⟩ : ByteArray).data.toList = tReturn := rfl
 have e125 : (⟨#[125]⟩ : ByteArray).data.toList = tRb := rfl
 have hv : take E tReturn n = .ok (pk E n) (n + 1) := by unfold take; rw [if_pos ht]
 rw [e1, hv] at HTK
 have HT := zz HTK
 have HE := zz hE
 have HB := zz hB
 have HS := zz hs
 have HLT := zz h.lt
 clear h hE hB hs ht HTK hv e1
 have hf := tok_field0
 go_enter Tryz.func176, Tryz.ntmps176
 go_wp2_with fail
 refine HT.out.mono ?_
 rintro e w1 ⟨v, rfl, _, hr1, hk1⟩
 have hB1 := HB.out.keeps hk1 (fun e => absurd (show sb = rb from e) (by have := HS.out; omega))
 have c0 := hB1.at_ 0 _ rfl
 have z0 := hB1.free 0
 have hB2 := hB1.set 0 (.int .i64 (8 : Nat)) (by simp [st0])
 have hk2 : Keeps (fun b => b = rb \/ b = sb) w (w1.setCell ⟨sb, 0, none⟩ (.int .i64 (8 : Nat))) := (hk1.mono (fun _ _ e => Or.inl e)).trans (own1.mono (fun _ _ e => Or.inr e))
 have hr2 : RdAt (w1.setCell ⟨sb, 0, none⟩ (.int .i64 (8 : Nat))) rb tv E (n + 1) dep := hr1.two own1 HS.out
 have HB2 := zz hB2
 have HK2 := zz hk2
 have HR2 := zz hr2
 have HP := zz (peek_any _ hr2)
 clear hB1 hB2 hk1 hk2 hr1 hr2
 unfold tokV at HP
 generalize hT3 : mkT (pk E (n + 1)).text = T3 at *
 go_wp2_with fail
 refine HP.out.mono ?_
 rintro e w3 ⟨rfl, hb3⟩
 have hB3 := HB2.out.fresh hb3
 have hr3 := HR2.out.fresh hb3
 have hk3 : Keeps (fun b => b = rb \/ b = sb) w w3 := HK2.out.trans (Keeps.of_new hb3)
 have HB3 := zz hB3
 have HR3 := zz hr3
 have HK3 := zz hk3
 clear hB3 hr3 hk3 hb3 c0 z0
 have hEnd : ∀ W, Below w3.heap.size w3 W -> ((pk E (n + 1)).kind = 5 \/ (pk E (n + 1)).text = tRb) -> ∃ r, Ev (fun f => retV E f n) r /\ FillR w W rb tv E dep sb r (.returned (.tuple #[])) := fun W hb hc =>
  ⟨.ok (stz 8 (pk E n).at_ [] .nil .nil) (n + 1), Ev.pure (fun e => by cases e) fun f => (by unfold retV; rw [if_pos hc]), rfl, ⟨_, HB3.out.fresh hb, stC_one rfl rfl⟩, HR3.out.fresh hb, HK3.out.trans (Keeps.of_new hb)⟩
 have HEnd := zz hEnd
 clear hEnd
 by_cases k5 : (pk E (n + 1)).kind = 5
 ·have k5i : ((pk E (n + 1)).kind : Int) = 5 := by omega
  have b5 : (((pk E (n + 1)).kind : Int) != 5) = false := by rw [k5i]; rfl
  have H5 := zz k5
  clear k5 k5i
  go_wp2_with fail
  go_end0
  exact HEnd.out _ (Below.refl _ _) (Or.inl H5.out)
 ·have b5 : (((pk E (n + 1)).kind : Int) != 5) = true := by simp; omega
  have H5 := zz k5
  clear k5
  have HIS := is_any ⟨#[125]⟩ w3 HR3.out
  rw [e125] at HIS
  have HI := zz HIS
  clear HIS
  by_cases hrb : (pk E (n + 1)).text = tRb
  ·rw [decide_eq_true hrb] at HI
   have HRB := zz hrb
   clear hrb
   go_wp2_with (go_at_call 58; refine HI.out.mono ?_; rintro e w4 ⟨rfl, hb4⟩)
   go_end0
   exact HEnd.out _ hb4 (Or.inr HRB.out)
  ·rw [decide_eq_false hrb] at HI
   have HRB := zz hrb
   clear hrb HEnd
   have HXP : Hid (∀ W, Below w3.heap.size w3 W -> Calls Tryz.prog 174 #[.pointer (some ⟨rb, 0, none⟩), .int .i64 0] W fun e w' => ∃ r, Ev (fun f => expr E f 0 (n + 1)) r /\ Says ExV W w' rb tv E dep r e) := zz fun W hb =>
    RExpr (dd := 0) (Nat.zero_le _) (n + 1) W (HR3.out.fresh hb) ((HE.out.keeps HK3.out (fun b e => by have := HS.out; omega)).fresh hb)
   go_wp2_with (go_at_call 58; refine HI.out.mono ?_; rintro e w4 ⟨rfl, hb4⟩)
   refine (HXP.out w4 hb4).mono ?_
   rintro e w5 ⟨r, hev, hsay⟩
   have HEV : Hid (Ev (fun f => retV E f n) (r.bind fun x m => .ok (stz 8 (pk E n).at_ [] .nil x) m)) := zz (by
    have h := Ev.map (fun x m => (.ok (stz 8 (pk E n).at_ [] .nil x) m : Res St)) (fun _ _ e => by cases e) hev
    exact ⟨h.1, h.2.imp fun f0 hf f hle => by show retV E f n = _; unfold retV; rw [if_neg (fun e => e.elim H5.out HRB.out)]; exact hf f hle⟩)
   have hk4 : Keeps (fun b => b = rb \/ b = sb) w w4 := HK3.out.trans (Keeps.of_new hb4)
   have hB4 := HB3.out.fresh hb4
   cases r with
   | out => exact hsay.elim
   | bad k a =>
    have hsay' : Threw w4 w5 rb k a e := hsay
    obtain ⟨b, rfl⟩ := threw_panic hsay'
    exact ⟨rfl, _, HEV.out, hsay'.with HLT.out hk4 (fun b e => by have := HS.out; omega)⟩
   | ok x m =>
    obtain ⟨v5, rfl, hx5, hr5, hk5⟩ := hsay
    obtain ⟨o, rfl⟩ := ex_ptr hx5
    have hB5 := hB4.keeps hk5 (fun e => absurd (show sb = rb from e) (by have := HS.out; omega))
    have c4 := hB5.at_ 4 _ rfl
    have z4 := hB5.free 4
    have HB5 := zz hB5
    have HX5 := zz hx5
    have HR5 := zz hr5
    have HK5 := zz (hk4.trans (hk5.mono (fun _ _ e => Or.inl e)))
    have HSZ := zz hk4.size
    clear hB4 hB5 hx5 hr5 hk5 hk4 hb4 hev
    go_wp2_with fail
    go_end0
    refine ⟨_, HEV.out, rfl, ?_⟩
    have h5 := HB5.out.set 4 (.pointer o) (by simp [st0])
    exact fill_end h5 (stC_one (F := fun b => w.heap.size <= b) rfl (HX5.out.of HSZ.out)) (fun _ e => e) HR5.out HK5.out own1 HS.out HB.out.lt
end Go.Proofs.YtjejcajnnbilmaaGreatDoor
