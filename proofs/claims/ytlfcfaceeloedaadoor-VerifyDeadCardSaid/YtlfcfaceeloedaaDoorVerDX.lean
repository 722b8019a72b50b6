/-
  Of VerifyDead: Pick, VerifyBoundsW, VerDeadM, VerCased, VerDeadC as one text (tools/gen_vdx.py).
-/
import Derived.Test.YtlfcfaceeloedaaDoorRows
import Derived.WalkKit
import Derived.WalkSpells
import Derived.WalkLawsBesides
import Derived.Lib.Hide
import Derived.Test.YtlfcfaceeloedaaDoorVerL1
import Derived.Test.YtlfcfaceeloedaaDoorVerClone
namespace Go.Proofs.YtlfcfaceeloedaaDoor
open Go.RowKit

theorem pick_val (a : Int) (n : Nat) (h0 : 0 < n) (hn : n ≤ 9223372036854775807) : wrap64 ((IntKind.u64.wrap a).tmod n) = ((IntKind.u64.wrap a % (n : Int)).toNat : Int) ∧ (IntKind.u64.wrap a % (n : Int)).toNat < n := by
  have hu : 0 ≤ IntKind.u64.wrap a := by rw [IntKind.wrap_u64]; omega
  have e1 : (IntKind.u64.wrap a).tmod n = IntKind.u64.wrap a % n := Int.tmod_eq_emod_of_nonneg hu
  have l0 : 0 ≤ IntKind.u64.wrap a % (n : Int) := Int.emod_nonneg _ (by omega)
  have l1 : IntKind.u64.wrap a % (n : Int) < n := Int.emod_lt_of_pos _ (by omega)
  rw [e1]
  refine ⟨?_, by omega⟩
  rw [IntWalk.wrap64_in _ ⟨by omega, by omega⟩]; omega

set_option maxHeartbeats 400000 in
theorem pick_any (a : Int) (n : Nat) (w : World) (h0 : 0 < n) (hn : n ≤ 9223372036854775807) :
    Calls Tryd.prog 16 #[.int .i64 a, .int .i64 n] w fun e w' => ∃ r : Nat, r < n ∧ e = .returned (.int .i64 r) ∧ w = w' := by
  go_enter Tryd.func16, Tryd.ntmps16
  go_wp2_with fail
  go_ret
  obtain ⟨e, hl⟩ := pick_val a n h0 hn
  exact ⟨_, hl, by rw [← e]; rfl, rfl⟩
end Go.Proofs.YtlfcfaceeloedaaDoor
namespace Go.Proofs.YtlfcfaceeloedaaDoor
open Go.RowKit Go.Shelf Cd Ve

/-- What is told of one function, to be read. -/
structure ToldF (w : World) (f : FnV) (l : List Sd) (sv : Value) : Prop where
  sh : ShpsAt (fun _ => False) w sv (shOf l)
  fb : FnB f l
theorem ToldF.below {w w' : World} {f : FnV} {l : List Sd} {sv : Value} (h : ToldF w f l sv) (hb : Below w.heap.size w w') : ToldF w' f l sv := ⟨h.sh.keeps (keeps_none hb) fun _ e => e, h.fb⟩
theorem shOf_length (l : List Sd) : (shOf l).length = l.length := by simp [shOf]
theorem kindsI_length (u : Wt) : (kindsI u).length = u.length := by simp [kindsI]
/-- The k-th shape of a function, in its cells. -/
theorem ToldF.get {w : World} {f : FnV} {l : List Sd} {sv : Value} (h : ToldF w f l sv) {k : Nat} {d : Sd} (hd : l[k]? = some d) : ∃ b o c a c3, sv = .slice (some ⟨b, o, none⟩) f.code.length c ∧ w.cell? ⟨b, o + k * 2, none⟩ = some (.bool d.isSome) ∧
    w.cell? ⟨b, o + k * 2 + 1, none⟩ = some (.slice a (d.getD []).length c3) ∧ IntsAt w (.slice a (d.getD []).length c3) (kindsI (d.getD [])) := by
  obtain ⟨ao, n, cap, rfl, hn, hc, hm, hx⟩ := h.sh
  obtain ⟨b, o, kv, rfl, -, q3, q4, q5, -⟩ := hx k (d.isSome, kindsI (d.getD [])) (by unfold shOf; rw [List.getElem?_map, hd]; rfl)
  have hq := q5
  obtain ⟨a, n3, c3, rfl, hn3, -⟩ := q5
  rw [kindsI_length] at hn3
  subst hn3
  rw [shOf_length, h.fb.len] at hn
  subst hn
  exact ⟨b, o, cap, a, c3, rfl, q3, q4, hq⟩

set_option maxRecDepth 100000 in
set_option maxHeartbeats 12800000 in
theorem verifyBounds_any (p : Pg) (v : Value) (w : World) (hp : ProgAt w v p) (hE : ErrT w) : Calls Tryd.prog 6 #[v] w fun e w' => e = .returned (.bool true) ∧ Below w.heap.size w w' := by
  have HP := Lib.hid hp
  have HE := Lib.hid hE
  obtain ⟨vf, rfl, ao, n, cap, rfl, hn, hnc, hcm, -⟩ := hp
  unfold maxLen at hcm
  obtain ⟨gl, hgl⟩ : ∃ gl, gl = p.globals := ⟨_, rfl⟩
  rw [← hgl] at HP ⊢
  have hb0 := (Below.refl w.heap.size w).alloc (Nat.le_refl _) (.cells #[.int .i64 gl, .slice ao n cap] 24)
  have hpb := BlkO.new w #[.int .i64 gl, .slice ao n cap] 24
  have HFT := Lib.hid (fitted_any _ (hE.alloc (.cells #[.int .i64 gl, .slice ao n cap] 24)))
  have HB0 := Lib.hid hb0
  have HPB := Lib.hid hpb
  have HN := Lib.hid hn
  clear hb0 hE hgl hpb hn
  obtain ⟨pb, hpb⟩ : ∃ pb, pb = w.heap.size := ⟨_, rfl⟩
  rw [← hpb] at HPB
  go_enter Tryd.func6, Tryd.ntmps6
  go_upto_region 1 with fail
  rw [← hpb]
  clear hpb
  go_wp2_with fail
  refine HFT.out.mono ?_
  rintro e w1 ⟨rfl, hb1⟩
  have HPB1 := Lib.hid (HPB.out.below hb1)
  have HB1 := Lib.hid (HB0.out.trans (hb1.mono HB0.out.size))
  have HBG := Lib.hid (big_any p _ w1 (HP.out.below HB1.out))
  have p0 := HPB1.out.at_ 0 _ rfl
  have p1 := HPB1.out.at_ 1 _ rfl
  clear hb1 HFT
  go_wp2_with fail
  refine HBG.out.mono ?_
  rintro e w2 ⟨rfl, hb2⟩
  have HPB2 := Lib.hid (HPB1.out.below hb2)
  have HB2 := Lib.hid (HB1.out.trans (hb2.mono HB1.out.size))
  clear hb2 HBG p0 p1
  have p0 := HPB2.out.at_ 0 _ rfl
  have p1 := HPB2.out.at_ 1 _ rfl
  cases hbg : bigB p with
  | true =>
    go_wp2_with fail
    go_ret
    exact ⟨rfl, HB2.out⟩
  | false =>
    have HSH := Lib.hid (shapes_any p _ w2 (HP.out.below HB2.out))
    have HSML := Lib.hid (big_no hbg)
    clear hbg
    go_wp2_with fail
    refine HSH.out.mono ?_
    rintro e w3 ⟨hs, hb3⟩
    have HPB3 := Lib.hid (HPB2.out.below hb3)
    have HB3 := Lib.hid (HB2.out.trans (hb3.mono HB2.out.size))
    clear hb3 HSH p0 p1
    have p0 := HPB3.out.at_ 0 _ rfl
    have p1 := HPB3.out.at_ 1 _ rfl
    cases ha : lookA p with
    | err m =>
      rw [ha] at hs
      subst hs
      have hm : m ≠ 0 := look_err ha
      rw [errV_nz hm]
      clear ha hm
      go_wp2_with fail
      go_ret
      exact ⟨rfl, HB3.out⟩
    | at_ m place =>
      rw [ha] at hs
      obtain ⟨b, rfl, -⟩ := hs
      clear ha
      go_wp2_with fail
      go_ret
      exact ⟨rfl, HB3.out⟩
    | ok l =>
      rw [ha] at hs
      obtain ⟨v, rfl, htl⟩ := hs
      have HTL := Lib.hid htl
      obtain ⟨a5, n5, c5, rfl, hn5, hnc5, hcm5, hx5⟩ := htl
      rw [List.length_map] at hn5
      have hlk := look_ok ha
      obtain ⟨hl1, hl2⟩ := hlk.bounds
      have hnn : n5 = n := by rw [hn5, hl1, ← HN.out]
      subst hnn
      unfold maxLen at hcm5
      have HX : Hid (∀ i f, p.fns[i]? = some f → ∃ b o sv, a5 = some ⟨b, o, none⟩ ∧ w3.cell? ⟨b, o + i, none⟩ = some sv ∧ ToldF w3 f (fnS p f).ahead sv) := Lib.hid fun i f hf => by
        obtain ⟨_, q2, q3⟩ := hl2 i f hf
        obtain ⟨b, o, sv, r1, r2, r3⟩ := hx5 i (shOf (fnS p f).ahead) (by rw [List.getElem?_map, q2]; rfl)
        exact ⟨b, o, sv, r1, r2, r3, q3⟩
      have HFN : Hid (FnsAt w3 (.slice ao n5 cap) p.fns) := Lib.hid (by
        obtain ⟨_, e, h⟩ := HP.out.below HB3.out
        have := agg2_snd e
        subst this
        exact h)
      clear ha hx5 hl1 hl2 hlk hn5
      go_wp2_with fail
      clear p0 HPB HPB1 HPB2 HSML
      go_loopw [5] (fun iv wr => ∃ i : Nat, i ≤ n5 ∧ iv = .int .i64 i ∧ Below w3.heap.size w3 wr) (fun iv _ => n5 - (intOf iv).toNat)
      case atStart => exact ⟨0, Nat.zero_le _, rfl, Below.refl _ _⟩
      case round =>
        obtain ⟨i, hi, rfl, hbw⟩ := hrel
        rename World => wr
        by_cases hin : i < n5
        · have hil : i < p.fns.length := by rw [← HN.out]; exact hin
          obtain ⟨f, hf⟩ : ∃ f, f = p.fns.getD i default := ⟨_, rfl⟩
          have hfk : p.fns[i]? = some f := by rw [hf, List.getD_eq_getElem?_getD, List.getElem?_eq_getElem hil]; rfl
          obtain ⟨b', o', c', hsl, f1, ⟨vl, f2, hli⟩, f3, vc, f4, hci⟩ := HFN.out.get hil
          rw [Value.slice.injEq] at hsl
          obtain ⟨rfl, -, rfl⟩ := hsl
          rw [← hf] at f1 f3 hli hci
          obtain ⟨b, o, sv, rfl, t1, htf⟩ := HX.out i f hfk
          have hkw := keeps_none hbw
          have f1 := hkw.cell_of f1 id
          have f2 := hkw.cell_of f2 id
          have f3 := hkw.cell_of f3 id
          have f4 := hkw.cell_of f4 id
          have p1' := (HPB3.out.below hbw).at_ 1 _ rfl
          obtain ⟨a1, n1, d1, rfl, -⟩ := hli
          have HCI := Lib.hid hci
          obtain ⟨a2, n2, d2, rfl, hn2, hnc2, hcm2, -⟩ := hci
          unfold maxLen at hcm2
          obtain ⟨pa, hpa⟩ : ∃ pa, pa = f.params := ⟨_, rfl⟩
          obtain ⟨ki, hki⟩ : ∃ ki, ki = f.kind := ⟨_, rfl⟩
          rw [← hpa] at f1
          rw [← hki] at f3
          obtain ⟨l, hl⟩ : ∃ l, l = (fnS p f).ahead := ⟨_, rfl⟩
          rw [← hl] at htf
          have HKI : Hid (ki = f.kind ∧ n2 = f.code.length) := Lib.hid ⟨hki, hn2⟩
          have hm0 : n2 ≠ 0 := fun e => htf.fb.pos (List.length_eq_zero_iff.1 (by rw [← hn2]; exact e))
          have hl0 : 0 < l.length := by rw [htf.fb.len, ← hn2]; omega
          have hz0 : l[0]? = some (some []) := by
            have := htf.fb.zero
            rw [List.getD_eq_getElem?_getD, List.getElem?_eq_getElem hl0] at this
            rw [List.getElem?_eq_getElem hl0]
            exact congrArg some this
          obtain ⟨sb, so, sc, sa, sc3, rfl, s0, s1, -⟩ := htf.get hz0
          have hii : (0 : Int) ≤ (i : Int) ∧ (i : Int) < (n5 : Int) := by omega
          have hii1 : (i : Int) < (n5 : Int) := by omega
          obtain ⟨W4, hW4⟩ : ∃ W4, W4 = wr.alloc (.cells #[.int .i64 pa, .slice a1 n1 d1, .int .i64 ki, .slice a2 n2 d2] 47) := ⟨_, rfl⟩
          have hfb := BlkO.new wr #[.int .i64 pa, .slice a1 n1 d1, .int .i64 ki, .slice a2 n2 d2] 47
          have hb4 : Below w3.heap.size w3 W4 := by rw [hW4]; exact hbw.alloc hbw.size _
          rw [← hW4] at hfb
          have hk4 := keeps_none hb4
          have t1' := hk4.cell_of t1 id
          have s0' := hk4.cell_of s0 id
          have s1' := hk4.cell_of s1 id
          rw [Nat.zero_mul, Nat.add_zero] at s0'
          rw [Nat.zero_mul, Nat.add_zero] at s1'
          simp only [Option.isSome_some] at s0'
          simp only [Option.getD_some, List.length_nil] at s1'
          rw [← HKI.out.2] at t1'
          obtain ⟨fb, hfbe⟩ : ∃ fb, fb = wr.heap.size := ⟨_, rfl⟩
          rw [← hfbe] at hfb
          have HFB := Lib.hid hfb
          have HB4 := Lib.hid hb4
          have HTF := Lib.hid htf
          have HLL : Hid (l.length = n2) := Lib.hid (by rw [htf.fb.len, ← hn2])
          have y2 := hfb.at_ 2 _ rfl
          have y3 := hfb.at_ 3 _ rfl
          have hmi : ((n2 : Int) == 0) = false := by simp; omega
          have hmp : 0 < n2 := by omega
          have hmpi : (0 : Int) < (n2 : Int) := by omega
          clear hf hfk hil hpa hki hl hz0 hl0 htf hkw hbw hb4 hk4 t1 s0 s1 hfb hn2
          go_upto_region 14 with fail
          rw [← hW4, ← hfbe]
          clear hW4 hfbe f1 f2 f3 f4 p1'
          go_quiet (fail)
          clear s0' s1' hmi hmp hmpi
          go_wp2_with fail
          go_loopw [7] (fun iv wr => ∃ k q : Nat, k ≤ n2 ∧ iv = .int .i64 k ∧ wr = W4.drewN q) (fun iv _ => n2 - (intOf iv).toNat)
          case atStart => exact ⟨0, _, Nat.zero_le _, rfl, rfl⟩
          case round =>
            obtain ⟨k, q, hk, rfl, rfl⟩ := hrel
            by_cases hkn : k < n2
            · have hkl : k < l.length := by rw [HLL.out]; exact hkn
              obtain ⟨d, hd⟩ : ∃ d, l[k]? = some d := ⟨_, List.getElem?_eq_getElem hkl⟩
              obtain ⟨sb2, so2, sc2, sa2, sc32, hse, s0, s1, s2⟩ := HTF.out.get hd
              rw [← HKI.out.2] at hse
              rw [Value.slice.injEq] at hse
              obtain ⟨e1, -, rfl⟩ := hse
              cases e1
              have hk4 := keeps_none HB4.out
              have s0 := hk4.cell_of s0 id
              have s1 := hk4.cell_of s1 id
              have hkc : k < f.code.length := by rw [← HKI.out.2]; exact hkn
              obtain ⟨cb, co, cc, hce, c0, -⟩ := InsAt.get (HCI.out.below HB4.out) hkc
              rw [Value.slice.injEq] at hce
              obtain ⟨rfl, -, rfl⟩ := hce
              have hret := HTF.out.fb.ret k
              obtain ⟨op, hop⟩ : ∃ op, op = (f.code.getD k (0, 0)).1 := ⟨_, rfl⟩
              rw [← hop] at c0 hret
              have hki2 : (0 : Int) ≤ (k : Int) ∧ (k : Int) < (n2 : Int) := by omega
              have hki1 : (k : Int) < (n2 : Int) := by omega
              have hdk : l.getD k none = d := by rw [List.getD_eq_getElem?_getD, hd]; rfl
              rw [hdk] at hret
              have hkok := HTF.out.fb.kok k
              rw [hdk] at hkok
              rw [← HKI.out.1] at hret
              clear hop hkl hd hk4 hdk hkc
              cases d with
              | none =>
                simp only [Option.isSome_none] at s0
                simp only [Option.getD_none, List.length_nil] at s1
                clear hret hkok s2
                go_wp2_with fail
                go_quiet (fail)
                go_wp2_with fail
                go_roundw
                case rel => exact ⟨k + 1, _, by omega, by go_num, rfl⟩
                case measure => simp [intOf]; omega
              | some u =>
                simp only [Option.isSome_some] at s0
                simp only [Option.getD_some] at s1 s2
                have hul : u.length ≤ 256 := (hkok u rfl).1
                have hr := hret u rfl
                clear hret hkok
                obtain ⟨ul, hule⟩ : ∃ ul, ul = u.length := ⟨_, rfl⟩
                rw [← hule] at s1 s2 hul
                have huli : ¬ (256 : Int) < (ul : Int) := by omega
                have HUL := Lib.hid hule
                clear hule
                go_upto_region 22 with fail
                have hule := HUL.out
                clear HUL
                by_cases h14 : op = 14
                · obtain ⟨r1, r2⟩ := hr h14
                  subst h14
                  by_cases hk0 : ki = 0
                  · have hu0 := r1 hk0
                    rw [hu0] at hule
                    simp only [List.length_nil] at hule
                    subst hk0
                    subst hule
                    clear r1 r2 hr s2
                    go_quiet (fail)
                    go_wp2_with fail
                    go_roundw
                    case rel => exact ⟨k + 1, _, by omega, by go_num, rfl⟩
                    case measure => simp [intOf]; omega
                  · obtain ⟨x, hx1, hx2⟩ := r2 hk0
                    rw [hx1] at hule
                    simp only [List.length_cons, List.length_nil, Nat.zero_add] at hule
                    subst hule
                    obtain ⟨_, _, _, e5, -, -, -, hxx⟩ := s2
                    cases e5
                    obtain ⟨b9, o9, rfl, hb9, hx9⟩ := hxx (by decide)
                    have s9 := hx9 0 (by decide)
                    rw [hx1, Nat.add_zero] at s9
                    have e9 : (kindsI [x]).getD 0 0 = ki := hx2
                    rw [e9] at s9
                    have s9 := (keeps_none HB4.out).cell_of s9 id
                    have hk0b : (ki == 0) = false := by simp [hk0]
                    have hk0c : (ki != 0) = true := by simp [hk0]
                    clear r1 r2 hr hxx hx9 hx1 hx2 hb9 e9
                    go_quiet (fail)
                    go_wp2_with fail
                    go_roundw
                    case rel => exact ⟨k + 1, _, by omega, by go_num, rfl⟩
                    case measure => simp [intOf]; omega
                · have h14b : (op == 14) = false := by simp [h14]
                  clear hr s2
                  go_quiet (fail)
                  go_wp2_with fail
                  go_roundw
                  case rel => exact ⟨k + 1, _, by omega, by go_num, rfl⟩
                  case measure => simp [intOf]; omega
            · obtain rfl : k = n2 := by omega
              have HB9 := Lib.hid (HB4.out)
              go_wp2_with fail
              go_roundw
              case rel => exact ⟨i + 1, by omega, by go_num, below_drewK HB9.out _⟩
              case measure => simp [intOf]; omega
        · obtain rfl : i = n5 := by omega
          have HB := Lib.hid (HB3.out.trans (hbw.mono HB3.out.size))
          clear hbw
          go_wp2_with fail
          go_ret
          exact ⟨rfl, HB.out⟩
theorem verifyBounds_of (p : Pg) (g : Int) (vf : Value) (w : World) (hp : ProgAt w (.agg #[.int .i64 g, vf]) p) (hE : ErrT w) : Calls Tryd.prog 6 #[.agg #[.int .i64 g, vf]] w fun e w' => e = .returned (.bool true) ∧ Below w.heap.size w w' := verifyBounds_any p _ w hp hE
end Go.Proofs.YtlfcfaceeloedaaDoor
namespace Go.Proofs.YtlfcfaceeloedaaDoor
open Go.RowKit Go.Shelf Cd Ve

/-- A program in which one instruction is another. -/
structure Other (p q : Pg) (n at_ : Nat) (f : FnV) (x : In) : Prop where
  globals : q.globals = p.globals
  fns : q.fns = p.fns.set n ⟨f.params, f.locals, f.kind, f.code.set at_ x⟩
  fn : p.fns[n]? = some f
/-- A case of a select that can be come to. -/
def CasedAt (f : FnV) (l : List Sd) (j : Nat) : Prop := ∃ (i : Nat) (u : Wt), l.getD i none = some u ∧ (f.code.getD i (0, 0)).1 = 23 ∧ i < j ∧ (j : Int) ≤ i + (f.code.getD i (0, 0)).2
theorem dead_like {p q : Pg} {l : List (List Sd)} {n at_ : Nat} {f : FnV} {x : In} (ho : Other p q n at_ f x) (h : LookOk p l) (hdead : (fnS p f).ahead.getD at_ none = none) (hcase : ¬ CasedAt f (fnS p f).ahead at_) (hq : progE q = 0) : lookA q = .ok l := by
  obtain ⟨h1, h2⟩ := h.bounds
  have hne : p.fns ≠ [] := fun e => by have := h.head; unfold headB at this; rw [e] at this; cases this
  have hnl := (List.getElem?_eq_some_iff.1 ho.fn).1
  obtain ⟨f', hf'⟩ : ∃ f' : FnV, f' = ⟨f.params, f.locals, f.kind, f.code.set at_ x⟩ := ⟨_, rfl⟩
  have hqf := ho.fns
  rw [← hf'] at hqf
  have hget : ∀ (j : Nat) g, p.fns[j]? = some g → ∃ g', q.fns[j]? = some g' ∧ g'.params = g.params ∧ g'.locals = g.locals ∧ g'.kind = g.kind ∧ (g' = g ∨ (j = n ∧ g = f ∧ g' = f')) := fun j g hj => by
    by_cases e : n = j
    · subst e
      rw [ho.fn] at hj
      cases hj
      refine ⟨f', by rw [hqf, List.getElem?_set_self hnl], by rw [hf'], by rw [hf'], by rw [hf'], Or.inr ⟨rfl, rfl, rfl⟩⟩
    · exact ⟨g, by rw [hqf, List.getElem?_set_ne e]; exact hj, rfl, rfl, rfl, Or.inl rfl⟩
  have hs : SigLe p q := ⟨ho.globals, hne, fun j g hj => by obtain ⟨g', r1, r2, r3, r4, _⟩ := hget j g hj; exact ⟨g', r1, r2, r3, r4⟩⟩
  have hlen : q.fns.length = p.fns.length := by rw [hqf, List.length_set]
  have hall : ∀ (j : Nat) g g', p.fns[j]? = some g → q.fns[j]? = some g' → fnS q g' = fnS p g := fun j g g' hj hj' => by
    obtain ⟨g2, r1, _, _, _, r5⟩ := hget j g hj
    rw [hj'] at r1
    cases r1
    obtain ⟨w0, _, _⟩ := h2 j g hj
    have hk := fnR_k (h.right.each g (List.mem_of_getElem? hj))
    rcases r5 with rfl | ⟨_, rfl, rfl⟩
    · exact fn_like (D := fun _ => False) hs (pgR_k h.right) hk (Like.refl _) w0 (fun _ e => e.elim) (fun _ _ _ _ _ _ _ e => e)
    · refine fn_like (D := fun j => j = at_) hs (pgR_k h.right) hk ⟨by rw [hf'], by rw [hf'], by rw [hf'], by rw [hf', List.length_set], fun j hj => ?_⟩ w0 (fun j e => by rw [e]; exact hdead) (fun a u ha ho j h3 h4 e => hcase ⟨a, u, ha, ho, by omega, by rw [← e]; exact h4⟩)
      rw [hf']
      dsimp only
      rw [List.getD_eq_getElem?_getD, List.getElem?_set_ne (fun e => hj e.symm), List.getD_eq_getElem?_getD]
  unfold lookA
  rw [if_neg (fun g => g hq)]
  have hh : headB q = true := by
    have h0 := h.head
    unfold headB at h0 ⊢
    obtain ⟨g, r, hpf⟩ : ∃ g r, p.fns = g :: r := by
      cases hpf : p.fns with
      | nil => exact absurd hpf hne
      | cons g r => exact ⟨g, r, rfl⟩
    obtain ⟨g', r1, r2, _, r4, _⟩ := hget 0 g (by rw [hpf]; rfl)
    rw [hpf] at h0
    cases hqq : q.fns with
    | nil => rw [hqq] at r1; simp at r1
    | cons y ys =>
      rw [hqq] at r1
      simp at r1
      subst r1
      dsimp only at h0 ⊢
      rw [r2, r4]
      exact h0
  rw [if_pos hh]
  have hok : fnsS q 0 q.fns = .ok (q.fns.map fun g => (fnS q g).ahead) := ok_fns fun g hg => by
    obtain ⟨j, hj, rfl⟩ := List.mem_iff_getElem.1 hg
    have hj2 : j < p.fns.length := by omega
    rw [hall j _ _ (List.getElem?_eq_getElem hj2) (List.getElem?_eq_getElem hj)]
    exact (h2 j _ (List.getElem?_eq_getElem hj2)).1
  rw [hok]
  dsimp only
  congr 1
  apply List.ext_getElem?
  intro j
  by_cases hj : j < p.fns.length
  · rw [List.getElem?_map, List.getElem?_eq_getElem (by omega), (h2 j _ (List.getElem?_eq_getElem hj)).2.1]
    show some (fnS q q.fns[j]).ahead = some (fnS p p.fns[j]).ahead
    rw [hall j _ _ (List.getElem?_eq_getElem hj) (List.getElem?_eq_getElem (by omega))]
  · rw [List.getElem?_eq_none (by rw [List.length_map]; omega), List.getElem?_eq_none (by omega)]
theorem info_boolC : (Tryd.prog.info? 4).map (fun i => (i.zero, i.size, i.bytes)) = some (some (.bool false), 1, 1) := by kernel_rfl
theorem make_boolsC (n : Nat) (h : n ≤ 100000) : ∃ cs : Array Value, cs.toList = List.replicate n (.bool false) ∧ ∀ W : World,
    (Instr.makeSlice 50 (.int .i64 n) (.int .i64 n)).run Tryd.prog W = .ok (.slice (some ⟨W.heap.size, 0, none⟩) n n) (W.alloc (.cells cs 4)) := by
  obtain ⟨i0, hi, hz0, hz1, hz2⟩ := info_parts info_boolC
  refine ⟨madeCells (Value.cells (.bool false)) (n * 1), ?_, fun W => ?_⟩
  · apply List.ext_getElem
    · simp [size_madeCells]
    · intro i h1 h2
      simp [madeCells, Value.cells, Nat.mod_one]
  · have := run_make (P := Tryd.prog) W 50 4 i0 (.bool false) Tryd.underlying50 hi hz0 .i64 .i64 n n (by omega) (by omega) (by rw [hz2]; omega) (by omega)
    rw [this]
    simp only [Int.toNat_natCast, hz1]
end Go.Proofs.YtlfcfaceeloedaaDoor
namespace Go.Proofs.YtlfcfaceeloedaaDoor
open Go.RowKit Go.Shelf Cd Ve

/-- Which places are marked so far: at least those of the instructions ahead of the i-th one, and of its own first k - 1. -/
structure CasJ (w wr : World) (ob m : Nat) (f : FnV) (l : List Sd) (i k : Nat) (bs : List Value) : Prop where
  len : bs.length = m
  blk : BlkO wr ob bs
  bool : ∀ (j : Nat) v, bs[j]? = some v → ∃ b, v = .bool b
  old : ∀ (a j : Nat) (u : Wt), (a < i ∨ (a = i ∧ j < i + k)) → l.getD a none = some u → (f.code.getD a (0, 0)).1 = 23 → a < j → (j : Int) ≤ a + (f.code.getD a (0, 0)).2 → j < m → bs[j]? = some (.bool true)
  keep : Keeps (fun b => b = ob) w wr

set_option maxRecDepth 100000 in
set_option maxHeartbeats 12800000 in
theorem cased_any (f : FnV) (pa ki : Int) (vl vc sv : Value) (l : List Sd) (w : World) (hc : InsAt w vc f.code) (ht : ToldF w f l sv) (h9 : f.code.length ≤ 9000) (hN : ∀ i ∈ f.code, i.1 = 23 → 0 ≤ i.2) :
    Calls Tryd.prog 17 #[.agg #[.int .i64 pa, vl, .int .i64 ki, vc], sv] w fun e w' => ∃ ob bs, e = .returned (.slice (some ⟨ob, 0, none⟩) f.code.length f.code.length) ∧ bs.length = f.code.length ∧ (∀ (j : Nat) v, bs[j]? = some v → ∃ b, v = .bool b) ∧ BlkO w' ob bs ∧
      (∀ j, j < f.code.length → CasedAt f l j → bs[j]? = some (.bool true)) ∧ Below w.heap.size w w' := by
  have HC := Lib.hid hc
  have HT := Lib.hid ht
  obtain ⟨ao, m, cap, rfl, hm, hmc, hcm, -⟩ := hc
  unfold maxLen at hcm
  obtain ⟨so, n2, sc, rfl, hn2, hsc, hscm, -⟩ := ht.sh
  unfold maxLen at hscm
  rw [shOf_length, ht.fb.len, ← hm] at hn2
  subst hn2
  rw [← hm] at h9
  have HM := Lib.hid hm
  have HN := Lib.hid hN
  obtain ⟨cs, hcs, hmk⟩ := make_boolsC n2 (by omega)
  obtain ⟨W1, hW1⟩ : ∃ W1, W1 = w.alloc (.cells #[.int .i64 pa, vl, .int .i64 ki, .slice ao n2 cap] 47) := ⟨_, rfl⟩
  have hb1 : Below w.heap.size w W1 := by rw [hW1]; exact (Below.refl _ w).alloc (Nat.le_refl _) _
  have hx1 := BlkO.new w #[.int .i64 pa, vl, .int .i64 ki, .slice ao n2 cap] 47
  rw [← hW1] at hx1
  obtain ⟨fb, hfb⟩ : ∃ fb, fb = w.heap.size := ⟨_, rfl⟩
  rw [← hfb] at hx1
  have hx2 := hx1.keeps ((Keeps.refl (fun _ : Nat => False) _).alloc (.cells cs 4)) id
  have hy2 := BlkO.new W1 cs 4
  rw [hcs] at hy2
  have HB2 : Hid (Keeps (fun _ => False) w (W1.alloc (.cells cs 4))) := Lib.hid ((keeps_none hb1).trans ((Keeps.refl _ _).alloc _))
  have x3 := hx1.at_ 3 _ rfl
  obtain ⟨ob, hob⟩ : ∃ ob, ob = W1.heap.size := ⟨_, rfl⟩
  have hfo : fb < ob := by rw [hob]; exact hx1.lt
  have hwo : w.heap.size ≤ ob := by rw [hob]; exact hb1.size
  rw [← hob] at hy2
  have HX2 := Lib.hid hx2
  have HY2 := Lib.hid hy2
  have HFO : Hid (fb < ob ∧ w.heap.size ≤ ob) := Lib.hid ⟨hfo, hwo⟩
  clear hm hb1 hx1 hx2 hy2 hcs hfo hwo hN ht
  go_enter Tryd.func17, Tryd.ntmps17
  go_upto_region 1 with fail
  rw [← hW1, ← hfb]
  have HOB := Lib.hid hob
  clear hW1 hfb hob
  go_upto_region 2 with fail
  rw [← HOB.out]
  clear x3 hmk HOB
  generalize W1.alloc (.cells cs 4) = W2 at *
  go_wp2_with fail
  go_loopw [6] (fun iv wr => ∃ (i : Nat) (bs : List Value), i ≤ n2 ∧ iv = .int .i64 i ∧ Hid (CasJ W2 wr ob n2 f l i 1 bs)) (fun iv _ => n2 - (intOf iv).toNat)
  case atStart => exact ⟨0, _, Nat.zero_le _, rfl, Lib.hid ⟨List.length_replicate, HY2.out, fun j v h => by rw [List.getElem?_replicate] at h; split at h <;> cases h; exact ⟨false, rfl⟩, fun a j u h => by omega, Keeps.refl _ _⟩⟩
  case round =>
    obtain ⟨i, bs, hi, rfl, HJ⟩ := hrel
    rename World => wr
    have hfbx := HX2.out.keeps HJ.out.keep (by have := HFO.out.1; omega)
    have f3 := hfbx.at_ 3 _ rfl
    by_cases hin : i < n2
    · have hkw : Keeps (fun b => b = ob) w wr := (HB2.out.mono fun _ _ e => e.elim).trans HJ.out.keep
      have hkn : Keeps (fun _ => False) w wr := (Keeps.refl _ w).trans' hkw fun c hc e => by have := HFO.out.2; omega
      have hil : i < f.code.length := by rw [← HM.out]; exact hin
      obtain ⟨cb, co, cc, hce, c0, c1⟩ := InsAt.get (HC.out.keeps hkn (fun _ _ => id)) hil
      rw [Value.slice.injEq] at hce
      obtain ⟨rfl, -, rfl⟩ := hce
      have hll : i < l.length := by rw [HT.out.fb.len]; exact hil
      obtain ⟨d, hd⟩ : ∃ d, l[i]? = some d := ⟨_, List.getElem?_eq_getElem hll⟩
      obtain ⟨sb2, so2, sc2, sa2, sc32, hse, s0, -, -⟩ := HT.out.get hd
      rw [Value.slice.injEq] at hse
      obtain ⟨rfl, -, rfl⟩ := hse
      have s00 := s0
      have s0 := hkn.cell_of s0 id
      have hdk : l.getD i none = d := by rw [List.getD_eq_getElem?_getD, hd]; rfl
      have HDK := Lib.hid hdk
      obtain ⟨op, hop⟩ : ∃ op, op = (f.code.getD i (0, 0)).1 := ⟨_, rfl⟩
      obtain ⟨nn, hnn⟩ : ∃ nn, nn = (f.code.getD i (0, 0)).2 := ⟨_, rfl⟩
      rw [← hop] at c0
      rw [← hnn] at c1
      have HON : Hid (op = (f.code.getD i (0, 0)).1 ∧ nn = (f.code.getD i (0, 0)).2) := Lib.hid ⟨hop, hnn⟩
      have hn0 : op = 23 → 0 ≤ nn := fun e => by
        rw [hnn]
        refine HN.out _ ?_ (by rw [← hop]; exact e)
        rw [List.getD_eq_getElem?_getD, List.getElem?_eq_getElem hil]
        exact List.getElem_mem hil
      have hii : (0 : Int) ≤ (i : Int) ∧ (i : Int) < (n2 : Int) := by omega
      have hii1 : (i : Int) < (n2 : Int) := by omega
      have HNO : Hid (¬ fb = ob ∧ ¬ cb = ob ∧ ¬ sb2 = ob) := Lib.hid (by
        have h1 := HFO.out
        refine ⟨by omega, fun e => ?_, fun e => ?_⟩
        · obtain ⟨_, _, _, e2, h2, _, _, h3⟩ := HC.out
          cases e2
          obtain ⟨b9, o9, e9, h9', _⟩ := h3 (by omega)
          cases e9
          omega
        · have := block_lt_of_cell s00
          dsimp only at this
          omega)
      clear hkw hkn hil hll hd hdk hop hnn hfbx s00
      -- what is to be shown of the next one
      have HNX : Hid (∀ W' bs' k, CasJ W2 W' ob n2 f l i k bs' → (∀ u, l.getD i none = some u → op = 23 → nn < k ∨ n2 ≤ i + k) → CasJ W2 W' ob n2 f l (i + 1) 1 bs') := Lib.hid fun W' bs' k h he =>
        ⟨h.len, h.blk, h.bool, fun a j u ha hu ho h1 h2 h3 => by
          by_cases hai : a = i
          · subst hai
            refine h.old a j u (Or.inr ⟨rfl, ?_⟩) hu ho h1 h2 h3
            rw [← HON.out.1] at ho
            rw [← HON.out.2] at h2
            rcases he u hu ho with e | e <;> omega
          · exact h.old a j u (Or.inl (by omega)) hu ho h1 h2 h3, h.keep⟩
      by_cases h23 : op = 23
      · cases hL : d with
        | none =>
          subst hL
          simp only [Option.isSome_none] at s0
          have HQ : Hid (CasJ W2 wr ob n2 f l (i + 1) 1 bs) := Lib.hid (HNX.out _ _ 1 HJ.out (fun u hu => by rw [HDK.out] at hu; cases hu))
          subst h23
          clear hn0
          go_upto_region 6 with fail
          refine wp_loop_rounds 1 ?_
          rw [rounds_succ]
          go_wp2_with fail
          go_roundw
          case rel => exact ⟨i + 1, _, by omega, by go_num, HQ⟩
          case measure => simp [intOf]; omega
        | some u =>
          subst hL
          simp only [Option.isSome_some] at s0
          have hnn0 := hn0 h23
          subst h23
          obtain ⟨N, rfl⟩ : ∃ N : Nat, nn = (N : Int) := ⟨nn.toNat, by omega⟩
          have HSF : Hid (∀ V, Keeps (fun b => b = ob) wr V → V.cell? ⟨fb, 3, none⟩ = some (.slice (some ⟨cb, co, none⟩) n2 cap) ∧ V.cell? ⟨cb, co + i * 2, none⟩ = some (.int .i64 23) ∧ V.cell? ⟨cb, co + i * 2 + 1, none⟩ = some (.int .i64 (N : Int)) ∧ V.cell? ⟨sb2, so2 + i * 2, none⟩ = some (.bool true)) := Lib.hid fun V hV => ⟨hV.cell_of f3 HNO.out.1, hV.cell_of c0 HNO.out.2.1, hV.cell_of c1 HNO.out.2.1, hV.cell_of s0 HNO.out.2.2⟩
          clear hn0 hnn0
          go_wp2_with fail
          clear f3 c0 c1 s0
          go_loopw [7] (fun kv wk => ∃ (k : Nat) (bk : List Value), 1 ≤ k ∧ k ≤ n2 + 1 ∧ kv = .int .i64 k ∧ Hid (CasJ W2 wk ob n2 f l i k bk) ∧ Hid (Keeps (fun b => b = ob) wr wk)) (fun kv _ => n2 + 1 - (intOf kv).toNat)
          case atStart => exact ⟨1, _, Nat.le_refl _, by omega, rfl, HJ, Lib.hid (Keeps.refl _ _)⟩
          case round =>
            obtain ⟨k, bk, hk1, hk2, rfl, HK, HKK⟩ := hrel
            rename World => wk
            obtain ⟨g3, g0, g1, g2⟩ := HSF.out wk HKK.out
            have hw1 : IntKind.i64.wrap ((i : Int) + (k : Int)) = (i : Int) + (k : Int) := by rw [IntKind.wrap_i64]; omega
            by_cases hkN : k ≤ N
            · have hkNi : (k : Int) ≤ (N : Int) := by omega
              by_cases hik : i + k < n2
              · have hiki : (i : Int) + (k : Int) < (n2 : Int) := by omega
                have hiki0 : (0 : Int) ≤ (i : Int) + (k : Int) := by omega
                have hln : i + k < bk.length := by rw [HK.out.len]; exact hik
                obtain ⟨bv, hbv⟩ : ∃ bv, bk[i + k]? = some bv := ⟨_, List.getElem?_eq_getElem hln⟩
                have b0 := HK.out.blk.at_ _ _ hbv
                have b1 := HK.out.blk.free (i + k)
                have htn : ((i : Int) + (k : Int)).toNat = i + k := by omega
                have HN9 : Hid (CasJ W2 (wk.setCell ⟨ob, i + k, none⟩ (.bool true)) ob n2 f l i (k + 1) (bk.set (i + k) (.bool true))) := Lib.hid (by
                  refine ⟨by rw [List.length_set]; exact HK.out.len, HK.out.blk.set _ _ hln, fun j v hj => ?_, fun a j u h1 h2 h3 h4 h5 h6 => ?_, HK.out.keep.trans (own_set wk ob (i + k) (.bool true))⟩
                  · by_cases e : i + k = j
                    · rw [e, List.getElem?_set_self (by rw [← e]; exact hln)] at hj
                      cases hj
                      exact ⟨true, rfl⟩
                    · rw [List.getElem?_set_ne e] at hj
                      exact HK.out.bool j v hj
                  · by_cases e : i + k = j
                    · rw [e, List.getElem?_set_self (by rw [← e]; exact hln)]
                    · rw [List.getElem?_set_ne e]
                      exact HK.out.old a j u (by omega) h2 h3 h4 h5 h6)
                have HKS : Hid (Keeps (fun b => b = ob) wr (wk.setCell ⟨ob, i + k, none⟩ (.bool true))) := Lib.hid (HKK.out.trans (own_set wk ob (i + k) (.bool true)))
                clear hln hbv
                go_wp2_with fail
                go_roundw
                case rel => exact ⟨k + 1, _, by omega, by omega, by go_num, HN9, HKS⟩
                case measure => simp [intOf]; omega
              · have hiki : ¬ (i : Int) + (k : Int) < (n2 : Int) := by omega
                have HQ : Hid (CasJ W2 wk ob n2 f l (i + 1) 1 bk) := Lib.hid (HNX.out _ _ k HK.out (fun _ _ _ => Or.inr (by omega)))
                go_wp2_with fail
                go_roundw
                case rel => exact ⟨i + 1, _, by omega, by go_num, HQ⟩
                case measure => simp [intOf]; omega
            · have hkNi : ¬ (k : Int) ≤ (N : Int) := by omega
              have HQ : Hid (CasJ W2 wk ob n2 f l (i + 1) 1 bk) := Lib.hid (HNX.out _ _ k HK.out (fun _ _ _ => Or.inl (by omega)))
              go_wp2_with fail
              go_roundw
              case rel => exact ⟨i + 1, _, by omega, by go_num, HQ⟩
              case measure => simp [intOf]; omega
      · have h23b : (op == 23) = false := by simp [h23]
        have HQ : Hid (CasJ W2 wr ob n2 f l (i + 1) 1 bs) := Lib.hid (HNX.out _ _ 1 HJ.out (fun u _ e => absurd e h23))
        clear hn0
        go_upto_region 6 with fail
        refine wp_loop_rounds 1 ?_
        rw [rounds_succ]
        go_wp2_with fail
        go_roundw
        case rel => exact ⟨i + 1, _, by omega, by go_num, HQ⟩
        case measure => simp [intOf]; omega
    · obtain rfl : i = n2 := by omega
      go_wp2_with fail
      go_ret
      refine ⟨ob, bs, by rw [HM.out]; rfl, by rw [← HM.out]; exact HJ.out.len, HJ.out.bool, HJ.out.blk, fun j hj hcs => ?_, ?_⟩
      · obtain ⟨a, u, r1, r2, r3, r4⟩ := hcs
        have ha : a < i := by
          rw [HM.out, ← HT.out.fb.len]
          apply Nat.lt_of_not_le
          intro hge
          rw [List.getD_eq_getElem?_getD, List.getElem?_eq_none hge] at r1
          cases r1
        exact HJ.out.old a j u (Or.inl ha) r1 r2 r3 r4 (by rw [HM.out]; exact hj)
      · exact ((HB2.out.mono (S' := fun b => b = ob) fun _ _ e => e.elim).trans HJ.out.keep).below (Nat.le_refl _) fun c _ e => by rw [e]; exact HFO.out.2
end Go.Proofs.YtlfcfaceeloedaaDoor
namespace Go.Proofs.YtlfcfaceeloedaaDoor
open Go.RowKit Go.Shelf Cd Ve

theorem cellsN_inv : ∀ (l : List In) (k : Nat) (u : Value), (cellsN l)[k]? = some u → ∃ i x, l[i]? = some x ∧ ((k = i * 2 ∧ u = .int .i64 x.1) ∨ (k = i * 2 + 1 ∧ u = .int .i64 x.2))
  | [], k, u, h => by simp [cellsN] at h
  | e :: l, 0, u, h => by cases h; exact ⟨0, e, rfl, Or.inl ⟨rfl, rfl⟩⟩
  | e :: l, 1, u, h => by cases h; exact ⟨0, e, rfl, Or.inr ⟨rfl, rfl⟩⟩
  | e :: l, k + 2, u, h => by
    have h' : (cellsN l)[k]? = some u := h
    obtain ⟨i, x, h1, h2⟩ := cellsN_inv l k u h'
    exact ⟨i + 1, x, by simpa using h1, by rcases h2 with ⟨a, b⟩ | ⟨a, b⟩; exact Or.inl ⟨by omega, b⟩; exact Or.inr ⟨by omega, b⟩⟩
theorem cellsN_set (l : List In) (k : Nat) (x : In) : ((cellsN l).set (k * 2) (.int .i64 x.1)).set (k * 2 + 1) (.int .i64 x.2) = cellsN (l.set k x) := by
  induction l generalizing k with
  | nil => rfl
  | cons e l ih =>
    cases k with
    | zero => rfl
    | succ k =>
      have e9 : ∀ (y : In) (r : List In), cellsN (y :: r) = .int .i64 y.1 :: .int .i64 y.2 :: cellsN r := fun _ _ => rfl
      rw [List.set_cons_succ, e9, e9, show (k + 1) * 2 = k * 2 + 1 + 1 by omega, List.set_cons_succ, List.set_cons_succ, List.set_cons_succ, List.set_cons_succ, ih]
/-- Instructions of a block of its own. -/
structure OwnN (w : World) (cb n c : Nat) (l : List In) : Prop where
  len : l.length = n
  cap : n ≤ c ∧ c ≤ maxLen
  at_ : ∀ (k : Nat) u, (cellsN l)[k]? = some u → w.cell? ⟨cb, k, none⟩ = some u
  free : ∀ k, w.frozen? ⟨cb, k, none⟩ = false
  lt : cb < w.heap.size
theorem OwnN.ins {w : World} {cb n c : Nat} {l : List In} (h : OwnN w cb n c l) : InsAt w (.slice (some ⟨cb, 0, none⟩) n c) l :=
  ⟨_, n, c, rfl, h.len.symm, h.cap.1, h.cap.2, fun _ => ⟨cb, 0, rfl, h.lt, fun i x hi => by
    obtain ⟨h1, h2⟩ := cellsN_get l i x hi
    rw [Nat.zero_add]
    exact ⟨h.at_ _ _ h1, h.at_ _ _ h2⟩⟩⟩
theorem OwnN.keeps {S : Nat → Prop} {w w' : World} {cb n c : Nat} {l : List In} (h : OwnN w cb n c l) (hk : Keeps S w w') (hS : ¬ S cb) : OwnN w' cb n c l :=
  ⟨h.len, h.cap, fun k u hu => hk.cell_of (h.at_ k u hu) hS, fun k => by rw [hk.frozen (p := ⟨cb, k, none⟩) h.lt hS]; exact h.free k, Nat.lt_of_lt_of_le h.lt hk.size⟩
theorem OwnN.set {w : World} {cb n c : Nat} {l : List In} (h : OwnN w cb n c l) (k : Nat) (x : In) (hk : k < n) : OwnN ((w.setCell ⟨cb, k * 2, none⟩ (.int .i64 x.1)).setCell ⟨cb, k * 2 + 1, none⟩ (.int .i64 x.2)) cb n c (l.set k x) := by
  have hb : BlkO w cb (cellsN l) := ⟨h.at_, h.free, h.lt⟩
  have h2 := (hb.set (k * 2) (.int .i64 x.1) (by rw [cellsN_length, h.len]; omega)).set (k * 2 + 1) (.int .i64 x.2) (by rw [List.length_set, cellsN_length, h.len]; omega)
  rw [cellsN_set] at h2
  exact ⟨by rw [List.length_set]; exact h.len, h.cap, h2.at_, h2.free, h2.lt⟩
set_option maxRecDepth 100000 in
set_option maxHeartbeats 1600000 in
theorem cloneN_any (b o n cap : Nat) (l : List In) (w : World) (hn6 : n ≤ 1000000) (hn0 : 0 < n) (hv : InsAt w (.slice (some ⟨b, o, none⟩) n cap) l) :
    Calls Tryd.prog 19 #[.slice (some ⟨b, o, none⟩) n cap] w fun e w' => ∃ g c, e = .returned (.slice (some ⟨g, 0, none⟩) n c) ∧ w.heap.size ≤ g ∧ OwnN w' g n c l ∧ Below w.heap.size w w' := by
  obtain ⟨_, _, _, e, hn, hc, hm, hx⟩ := hv
  cases e
  obtain ⟨b', o', e', hbl, hx⟩ := hx hn0
  cases e'
  have hw1 := (Below.refl w.heap.size w).alloc (Nat.le_refl _) (.cells #[] 37)
  have HOW := Lib.hid (own_empty w 37 2)
  have hcn : ∀ j u, (cellsN l)[j]? = some u → (w.alloc (.cells #[] 37)).cell? ⟨b, o + j, none⟩ = some u := fun j u hj => by
    obtain ⟨i, x, h1, h2⟩ := cellsN_inv l j u hj
    obtain ⟨r1, r2⟩ := hx i x h1
    rcases h2 with ⟨rfl, rfl⟩ | ⟨rfl, rfl⟩
    · exact (keeps_none hw1).cell_of r1 id
    · exact (keeps_none hw1).cell_of (by rw [← Nat.add_assoc]; exact r2) id
  have hone : ∀ u ∈ cellsN l, u.oneCell' = true := fun u hu => by
    obtain ⟨x, _, hx2⟩ := List.mem_flatMap.1 hu
    simp at hx2
    rcases hx2 with rfl | rfl <;> rfl
  have hnl : (cellsN l).length = n * 2 := by rw [cellsN_length, hn]
  have HW1 := Lib.hid hw1
  have HN := Lib.hid hn
  have hB : w.heap.size ≤ (w.alloc (.cells #[] 37)).heap.size := by simp
  have hnil : (binOp .eql 45 (.slice (some ⟨b, o, none⟩) n cap) (.slice none 0 0)).run Tryd.prog w = .ok (.bool false) w := by kernel_rfl
  clear hx hn hw1
  go_enter Tryd.func19, Tryd.ntmps19
  go_wp2_with (at_builtin; refine wpList_appendM rfl (.tmp 5) (.tmp 6) 45 37 (.agg #[.int .i64 0, .int .i64 0]) 2 16 rfl Tryd.underlying45 info_ins rfl (by decide) (by decide) w.heap.size _ 0 [] (cellsN l) b o n cap HOW.out (by decide) hn6 hnl hcn hone hB (by simp [Act.eval]) (by simp [Act.eval]) ?_)
  intro ao9 c9 w9 ho9 hk9
  (try rw [Nat.zero_add] at ho9)
  (try rw [List.nil_append] at ho9)
  have HO := Lib.hid ho9
  have HB := Lib.hid (HW1.out.trans (hk9.below hB fun c _ hc => (World.ownsRow.lt HOW.out c hc).1))
  clear ho9 hk9
  go_wp2_with fail
  go_ret
  have ho := HO.out
  rcases ho.2 with ⟨e, h0⟩ | ⟨g, cap', cur, e, h3, h4, h5, h6, h7, h8⟩
  · rw [Value.slice.injEq] at e
    omega
  · rw [Value.slice.injEq] at e
    obtain ⟨rfl, _, rfl⟩ := e
    exact ⟨g, _, rfl, h3, ⟨HN.out.symm, ⟨h5, h6⟩, fun k u hu => by
      have := World.ownsRow.cells ho (g := g) rfl k u hu
      rwa [addr_add] at this, fun k => by simp [World.frozen?, h4], (Array.getElem?_eq_some_iff.1 h4).1⟩, HB.out⟩
/-- One function's instructions are others. -/
theorem fxsC_code : ∀ (gs : List Fx) (k : Nat) (g : Fx) (f' : FnV) (vc' : Value), gs[k]? = some g → f'.params = g.1.params → f'.kind = g.1.kind → (fxsC gs).set (k * 4 + 3) vc' = fxsC (gs.set k (f', g.2.1, vc'))
  | [], _, _, _, _, h, _, _ => by simp at h
  | y :: l, 0, g, f', vc', h, h1, h2 => by
    cases h
    show (fxC y ++ fxsC l).set (0 * 4 + 3) vc' = fxC (f', y.2.1, vc') ++ fxsC l
    unfold fxC
    dsimp only
    rw [h1, h2]
    rfl
  | y :: l, k + 1, g, f', vc', h, h1, h2 => by
    have ih := fxsC_code l k g f' vc' (by simpa using h) h1 h2
    show (fxC y ++ fxsC l).set ((k + 1) * 4 + 3) vc' = fxC y ++ fxsC (l.set k (f', g.2.1, vc'))
    have e : (fxC y).length = 4 := rfl
    rw [List.set_append_right _ _ (by rw [e]; omega), e, show (k + 1) * 4 + 3 - 4 = k * 4 + 3 by omega, ih]
/-- A cell of a row of the call's own is written. -/
theorem own_setC {w : World} {B e size n g c i : Nat} {xs : List Value} (h : w.ownsRow B e size (.slice (some ⟨g, 0, none⟩) n c) n xs) (u : Value) : (w.setCell ⟨g, i, none⟩ u).ownsRow B e size (.slice (some ⟨g, 0, none⟩) n c) n (xs.set i u) := by
  obtain ⟨h1, h2⟩ := h
  refine ⟨by rw [List.length_set]; exact h1, ?_⟩
  rcases h2 with ⟨h3, _⟩ | ⟨g', cap, cur, h3, h4, h5, h6, h7, h8, h9⟩
  · cases h3
  · rw [Value.slice.injEq] at h3
    obtain ⟨e1, _, rfl⟩ := h3
    cases e1
    refine Or.inr ⟨g, c, cur.setIfInBounds i u, rfl, h4, heap_setCell_same w g i cur e u h5, h6, h7, by simpa using h8, ?_⟩
    rw [Array.toList_setIfInBounds, List.take_set, h9]
theorem own_freeC {w : World} {B e size n g c : Nat} {xs : List Value} (h : w.ownsRow B e size (.slice (some ⟨g, 0, none⟩) n c) n xs) (j : Nat) : w.frozen? ⟨g, j, none⟩ = false := by
  rcases h.2 with ⟨h1, _⟩ | ⟨g', cap, cur, h1, _, h3, _⟩
  · cases h1
  · rw [Value.slice.injEq] at h1
    obtain ⟨e1, _, rfl⟩ := h1
    cases e1
    simp [World.frozen?, h3]
theorem own_some {w : World} {B e size n c : Nat} {ao : Option Addr} {xs : List Value} (h : w.ownsRow B e size (.slice ao n c) n xs) (h0 : 0 < n) : ∃ g, ao = some ⟨g, 0, none⟩ ∧ B ≤ g ∧ g < w.heap.size := by
  rcases h.2 with ⟨h1, _⟩ | ⟨g, cap, cur, h1, h3, h4, _⟩
  · rw [Value.slice.injEq] at h1
    omega
  · rw [Value.slice.injEq] at h1
    obtain ⟨rfl, _, _⟩ := h1
    exact ⟨g, rfl, h3, (Array.getElem?_eq_some_iff.1 h4).1⟩
/-- The program that was cloned. -/
structure NewQ (w0 wx : World) (qb n : Nat) (gl : Int) (aq : Option Addr) (cq : Nat) (gs : List Fx) : Prop where
  blk : BlkO wx qb [.int .i64 gl, .slice aq n cq]
  row : wx.ownsRow w0.heap.size 47 4 (.slice aq n cq) n (fxsC gs)
  keep : Keeps (fun _ => False) w0 wx
  off : ∀ c, (Value.slice aq n cq).ownBlock = some c → c ≠ qb
  lo : w0.heap.size ≤ qb
theorem newQ_end {w3 W0 W : World} {qb n : Nat} {gl : Int} {aq : Option Addr} {cq : Nat} {gs : List Fx} (h30 : Keeps (fun _ => False) w3 W0) (h31 : W0.heap.size = w3.heap.size) (hS : Keeps (fun _ => False) W0 W) (hA : W.ownsRow W0.heap.size 47 4 (.slice aq n cq) n (fxsC gs))
    (hL : BlkO W qb [.int .i64 0, .slice none 0 0]) (hX : ∀ c, (Value.slice aq n cq).ownBlock = some c → c ≠ qb) (hQ : W0.heap.size ≤ qb) :
    ∃ qb' aq' cq', (Value.pointer (some ⟨qb, 0, none⟩)) = .pointer (some ⟨qb', 0, none⟩) ∧ NewQ w3 ((W.setCell ⟨qb, 0, none⟩ (.int .i64 gl)).setCell ⟨qb, 1, none⟩ (.slice aq n cq)) qb' n gl aq' cq' gs := by
  have hks := (own_set W qb 0 (.int .i64 gl)).trans (own_set _ qb 1 (.slice aq n cq))
  rw [h31] at hA
  exact ⟨_, _, _, rfl, (hL.set 0 (.int .i64 gl) (show 0 < 2 by decide)).set 1 (.slice aq n cq) (show 1 < 2 by decide), hks.row hA hX, h30.trans (hS.trans' hks fun c hc e => by omega), hX, by rw [← h31]; exact hQ⟩
end Go.Proofs.YtlfcfaceeloedaaDoor
