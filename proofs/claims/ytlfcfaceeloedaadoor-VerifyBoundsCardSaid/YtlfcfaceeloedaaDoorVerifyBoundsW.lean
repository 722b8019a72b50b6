/-
  The walk of the law VerifyBounds: what waits.
-/
import Derived.Test.YtlfcfaceeloedaaDoorVerL1
namespace Go.Proofs.YtlfcfaceeloedaaDoor
open Go.RowKit Go.Shelf Cd Ve

/-- What is told of one function, to be read. -/
structure ToldF (w : World) (f : FnV) (l : List Sd) (sv : Value) : Prop where
  sh : ShpsAt (fun _ => False) w sv (shOf l)
  fb : FnB f l
theorem ToldF.below {w w' : World} {f : FnV} {l : List Sd} {sv : Value} (h : ToldF w f l sv) (hb : Below w.heap.size w w') : ToldF w' f l sv := ⟨h.sh.keeps (keeps_none hb) fun _ e => e, h.fb⟩
theorem shOf_length (l : List Sd) : (shOf l).length = l.length := by simp [shOf]
theorem kindsI_length (u : Wt) : (kindsI u).length = u.length := by simp [kindsI]
/-- The k-th shape of a function, in its cells. -/
theorem ToldF.get {w : World} {f : FnV} {l : List Sd} {sv : Value} (h : ToldF w f l sv) {k : Nat} {d : Sd} (hd : l[k]? = some d) : ∃ b o c a c3, sv = .slice (some ⟨b, o, none⟩) f.code.length c ∧ w.cell? ⟨b, o + k * 2, none⟩ = some (.bool d.isSome) ∧
    w.cell? ⟨b, o + k * 2 + 1, none⟩ = some (.slice a (d.getD []).length c3) ∧ IntsAt w (.slice a (d.getD []).length c3) (kindsI (d.getD [])) := by
  obtain ⟨ao, n, cap, rfl, hn, hc, hm, hx⟩ := h.sh
  obtain ⟨b, o, kv, rfl, -, q3, q4, q5, -⟩ := hx k (d.isSome, kindsI (d.getD [])) (by unfold shOf; rw [List.getElem?_map, hd]; rfl)
  have hq := q5
  obtain ⟨a, n3, c3, rfl, hn3, -⟩ := q5
  rw [kindsI_length] at hn3
  subst hn3
  rw [shOf_length, h.fb.len] at hn
  subst hn
  exact ⟨b, o, cap, a, c3, rfl, q3, q4, hq⟩

set_option maxRecDepth 100000 in
set_option maxHeartbeats 12800000 in
theorem verifyBounds_any (p : Pg) (v : Value) (w : World) (hp : ProgAt w v p) (hE : ErrT w) : Calls Tryd.prog 6 #[v] w fun e w' => e = .returned (.bool true) ∧ Below w.heap.size w w' := by
  have HP := Lib.hid hp
  have HE := Lib.hid hE
  obtain ⟨vf, rfl, ao, n, cap, rfl, hn, hnc, hcm, -⟩ := hp
  unfold maxLen at hcm
  obtain ⟨gl, hgl⟩ : ∃ gl, gl = p.globals := ⟨_, rfl⟩
  rw [← hgl] at HP ⊢
  have hb0 := (Below.refl w.heap.size w).alloc (Nat.le_refl _) (.cells #[.int .i64 gl, .slice ao n cap] 24)
  have hpb := BlkO.new w #[.int .i64 gl, .slice ao n cap] 24
  have HFT := Lib.hid (fitted_any _ (hE.alloc (.cells #[.int .i64 gl, .slice ao n cap] 24)))
  have HB0 := Lib.hid hb0
  have HPB := Lib.hid hpb
  have HN := Lib.hid hn
  clear hb0 hE hgl hpb hn
  obtain ⟨pb, hpb⟩ : ∃ pb, pb = w.heap.size := ⟨_, rfl⟩
  rw [← hpb] at HPB
  go_enter Tryd.func6, Tryd.ntmps6
  go_upto_region 1 with fail
  rw [← hpb]
  clear hpb
  go_wp2_with fail
  refine HFT.out.mono ?_
  rintro e w1 ⟨rfl, hb1⟩
  have HPB1 := Lib.hid (HPB.out.below hb1)
  have HB1 := Lib.hid (HB0.out.trans (hb1.mono HB0.out.size))
  have HBG := Lib.hid (big_any p _ w1 (HP.out.below HB1.out))
  have p0 := HPB1.out.at_ 0 _ rfl
  have p1 := HPB1.out.at_ 1 _ rfl
  clear hb1 HFT
  go_wp2_with fail
  refine HBG.out.mono ?_
  rintro e w2 ⟨rfl, hb2⟩
  have HPB2 := Lib.hid (HPB1.out.below hb2)
  have HB2 := Lib.hid (HB1.out.trans (hb2.mono HB1.out.size))
  clear hb2 HBG p0 p1
  have p0 := HPB2.out.at_ 0 _ rfl
  have p1 := HPB2.out.at_ 1 _ rfl
  cases hbg : bigB p with
  | true =>
    go_wp2_with fail
    go_ret
    exact ⟨rfl, HB2.out⟩
  | false =>
    have HSH := Lib.hid (shapes_any p _ w2 (HP.out.below HB2.out))
    have HSML := Lib.hid (big_no hbg)
    clear hbg
    go_wp2_with fail
    refine HSH.out.mono ?_
    rintro e w3 ⟨hs, hb3⟩
    have HPB3 := Lib.hid (HPB2.out.below hb3)
    have HB3 := Lib.hid (HB2.out.trans (hb3.mono HB2.out.size))
    clear hb3 HSH p0 p1
    have p0 := HPB3.out.at_ 0 _ rfl
    have p1 := HPB3.out.at_ 1 _ rfl
    cases ha : lookA p with
    | err m =>
      rw [ha] at hs
      subst hs
      have hm : m ≠ 0 := look_err ha
      rw [errV_nz hm]
      clear ha hm
      go_wp2_with fail
      go_ret
      exact ⟨rfl, HB3.out⟩
    | at_ m place =>
      rw [ha] at hs
      obtain ⟨b, rfl, -⟩ := hs
      clear ha
      go_wp2_with fail
      go_ret
      exact ⟨rfl, HB3.out⟩
    | ok l =>
      rw [ha] at hs
      obtain ⟨v, rfl, htl⟩ := hs
      have HTL := Lib.hid htl
      obtain ⟨a5, n5, c5, rfl, hn5, hnc5, hcm5, hx5⟩ := htl
      rw [List.length_map] at hn5
      have hlk := look_ok ha
      obtain ⟨hl1, hl2⟩ := hlk.bounds
      have hnn : n5 = n := by rw [hn5, hl1, ← HN.out]
      subst hnn
      unfold maxLen at hcm5
      have HX : Hid (∀ i f, p.fns[i]? = some f → ∃ b o sv, a5 = some ⟨b, o, none⟩ ∧ w3.cell? ⟨b, o + i, none⟩ = some sv ∧ ToldF w3 f (fnS p f).ahead sv) := Lib.hid fun i f hf => by
        obtain ⟨_, q2, q3⟩ := hl2 i f hf
        obtain ⟨b, o, sv, r1, r2, r3⟩ := hx5 i (shOf (fnS p f).ahead) (by rw [List.getElem?_map, q2]; rfl)
        exact ⟨b, o, sv, r1, r2, r3, q3⟩
      have HFN : Hid (FnsAt w3 (.slice ao n5 cap) p.fns) := Lib.hid (by
        obtain ⟨_, e, h⟩ := HP.out.below HB3.out
        have := agg2_snd e
        subst this
        exact h)
      clear ha hx5 hl1 hl2 hlk hn5
      go_wp2_with fail
      clear p0 HPB HPB1 HPB2 HSML
      go_loopw [5] (fun iv wr => ∃ i : Nat, i ≤ n5 ∧ iv = .int .i64 i ∧ Below w3.heap.size w3 wr) (fun iv _ => n5 - (intOf iv).toNat)
      case atStart => exact ⟨0, Nat.zero_le _, rfl, Below.refl _ _⟩
      case round =>
        obtain ⟨i, hi, rfl, hbw⟩ := hrel
        rename World => wr
        by_cases hin : i < n5
        · have hil : i < p.fns.length := by rw [← HN.out]; exact hin
          obtain ⟨f, hf⟩ : ∃ f, f = p.fns.getD i default := ⟨_, rfl⟩
          have hfk : p.fns[i]? = some f := by rw [hf, List.getD_eq_getElem?_getD, List.getElem?_eq_getElem hil]; rfl
          obtain ⟨b', o', c', hsl, f1, ⟨vl, f2, hli⟩, f3, vc, f4, hci⟩ := HFN.out.get hil
          rw [Value.slice.injEq] at hsl
          obtain ⟨rfl, -, rfl⟩ := hsl
          rw [← hf] at f1 f3 hli hci
          obtain ⟨b, o, sv, rfl, t1, htf⟩ := HX.out i f hfk
          have hkw := keeps_none hbw
          have f1 := hkw.cell_of f1 id
          have f2 := hkw.cell_of f2 id
          have f3 := hkw.cell_of f3 id
          have f4 := hkw.cell_of f4 id
          have p1' := (HPB3.out.below hbw).at_ 1 _ rfl
          obtain ⟨a1, n1, d1, rfl, -⟩ := hli
          have HCI := Lib.hid hci
          obtain ⟨a2, n2, d2, rfl, hn2, hnc2, hcm2, -⟩ := hci
          unfold maxLen at hcm2
          obtain ⟨pa, hpa⟩ : ∃ pa, pa = f.params := ⟨_, rfl⟩
          obtain ⟨ki, hki⟩ : ∃ ki, ki = f.kind := ⟨_, rfl⟩
          rw [← hpa] at f1
          rw [← hki] at f3
          obtain ⟨l, hl⟩ : ∃ l, l = (fnS p f).ahead := ⟨_, rfl⟩
          rw [← hl] at htf
          have HKI : Hid (ki = f.kind ∧ n2 = f.code.length) := Lib.hid ⟨hki, hn2⟩
          have hm0 : n2 ≠ 0 := fun e => htf.fb.pos (List.length_eq_zero_iff.1 (by rw [← hn2]; exact e))
          have hl0 : 0 < l.length := by rw [htf.fb.len, ← hn2]; omega
          have hz0 : l[0]? = some (some []) := by
            have := htf.fb.zero
            rw [List.getD_eq_getElem?_getD, List.getElem?_eq_getElem hl0] at this
            rw [List.getElem?_eq_getElem hl0]
            exact congrArg some this
          obtain ⟨sb, so, sc, sa, sc3, rfl, s0, s1, -⟩ := htf.get hz0
          have hii : (0 : Int) ≤ (i : Int) ∧ (i : Int) < (n5 : Int) := by omega
          have hii1 : (i : Int) < (n5 : Int) := by omega
          obtain ⟨W4, hW4⟩ : ∃ W4, W4 = wr.alloc (.cells #[.int .i64 pa, .slice a1 n1 d1, .int .i64 ki, .slice a2 n2 d2] 47) := ⟨_, rfl⟩
          have hfb := BlkO.new wr #[.int .i64 pa, .slice a1 n1 d1, .int .i64 ki, .slice a2 n2 d2] 47
          have hb4 : Below w3.heap.size w3 W4 := by rw [hW4]; exact hbw.alloc hbw.size _
          rw [← hW4] at hfb
          have hk4 := keeps_none hb4
          have t1' := hk4.cell_of t1 id
          have s0' := hk4.cell_of s0 id
          have s1' := hk4.cell_of s1 id
          rw [Nat.zero_mul, Nat.add_zero] at s0'
          rw [Nat.zero_mul, Nat.add_zero] at s1'
          simp only [Option.isSome_some] at s0'
          simp only [Option.getD_some, List.length_nil] at s1'
          rw [← HKI.out.2] at t1'
          obtain ⟨fb, hfbe⟩ : ∃ fb, fb = wr.heap.size := ⟨_, rfl⟩
          rw [← hfbe] at hfb
          have HFB := Lib.hid hfb
          have HB4 := Lib.hid hb4
          have HTF := Lib.hid htf
          have HLL : Hid (l.length = n2) := Lib.hid (by rw [htf.fb.len, ← hn2])
          have y2 := hfb.at_ 2 _ rfl
          have y3 := hfb.at_ 3 _ rfl
          have hmi : ((n2 : Int) == 0) = false := by simp; omega
          have hmp : 0 < n2 := by omega
          have hmpi : (0 : Int) < (n2 : Int) := by omega
          clear hf hfk hil hpa hki hl hz0 hl0 htf hkw hbw hb4 hk4 t1 s0 s1 hfb hn2
          go_upto_region 14 with fail
          rw [← hW4, ← hfbe]
          clear hW4 hfbe f1 f2 f3 f4 p1'
          go_quiet (fail)
          clear s0' s1' hmi hmp hmpi
          go_wp2_with fail
          go_loopw [7] (fun iv wr => ∃ k q : Nat, k ≤ n2 ∧ iv = .int .i64 k ∧ wr = W4.drewN q) (fun iv _ => n2 - (intOf iv).toNat)
          case atStart => exact ⟨0, _, Nat.zero_le _, rfl, rfl⟩
          case round =>
            obtain ⟨k, q, hk, rfl, rfl⟩ := hrel
            by_cases hkn : k < n2
            · have hkl : k < l.length := by rw [HLL.out]; exact hkn
              obtain ⟨d, hd⟩ : ∃ d, l[k]? = some d := ⟨_, List.getElem?_eq_getElem hkl⟩
              obtain ⟨sb2, so2, sc2, sa2, sc32, hse, s0, s1, s2⟩ := HTF.out.get hd
              rw [← HKI.out.2] at hse
              rw [Value.slice.injEq] at hse
              obtain ⟨e1, -, rfl⟩ := hse
              cases e1
              have hk4 := keeps_none HB4.out
              have s0 := hk4.cell_of s0 id
              have s1 := hk4.cell_of s1 id
              have hkc : k < f.code.length := by rw [← HKI.out.2]; exact hkn
              obtain ⟨cb, co, cc, hce, c0, -⟩ := InsAt.get (HCI.out.below HB4.out) hkc
              rw [Value.slice.injEq] at hce
              obtain ⟨rfl, -, rfl⟩ := hce
              have hret := HTF.out.fb.ret k
              obtain ⟨op, hop⟩ : ∃ op, op = (f.code.getD k (0, 0)).1 := ⟨_, rfl⟩
              rw [← hop] at c0 hret
              have hki2 : (0 : Int) ≤ (k : Int) ∧ (k : Int) < (n2 : Int) := by omega
              have hki1 : (k : Int) < (n2 : Int) := by omega
              have hdk : l.getD k none = d := by rw [List.getD_eq_getElem?_getD, hd]; rfl
              rw [hdk] at hret
              have hkok := HTF.out.fb.kok k
              rw [hdk] at hkok
              rw [← HKI.out.1] at hret
              clear hop hkl hd hk4 hdk hkc
              cases d with
              | none =>
                simp only [Option.isSome_none] at s0
                simp only [Option.getD_none, List.length_nil] at s1
                clear hret hkok s2
                go_wp2_with fail
                go_quiet (fail)
                go_wp2_with fail
                go_roundw
                case rel => exact ⟨k + 1, _, by omega, by go_num, rfl⟩
                case measure => simp [intOf]; omega
              | some u =>
                simp only [Option.isSome_some] at s0
                simp only [Option.getD_some] at s1 s2
                have hul : u.length ≤ 256 := (hkok u rfl).1
                have hr := hret u rfl
                clear hret hkok
                obtain ⟨ul, hule⟩ : ∃ ul, ul = u.length := ⟨_, rfl⟩
                rw [← hule] at s1 s2 hul
                have huli : ¬ (256 : Int) < (ul : Int) := by omega
                have HUL := Lib.hid hule
                clear hule
                go_upto_region 22 with fail
                have hule := HUL.out
                clear HUL
                by_cases h14 : op = 14
                · obtain ⟨r1, r2⟩ := hr h14
                  subst h14
                  by_cases hk0 : ki = 0
                  · have hu0 := r1 hk0
                    rw [hu0] at hule
                    simp only [List.length_nil] at hule
                    subst hk0
                    subst hule
                    clear r1 r2 hr s2
                    go_quiet (fail)
                    go_wp2_with fail
                    go_roundw
                    case rel => exact ⟨k + 1, _, by omega, by go_num, rfl⟩
                    case measure => simp [intOf]; omega
                  · obtain ⟨x, hx1, hx2⟩ := r2 hk0
                    rw [hx1] at hule
                    simp only [List.length_cons, List.length_nil, Nat.zero_add] at hule
                    subst hule
                    obtain ⟨_, _, _, e5, -, -, -, hxx⟩ := s2
                    cases e5
                    obtain ⟨b9, o9, rfl, hb9, hx9⟩ := hxx (by decide)
                    have s9 := hx9 0 (by decide)
                    rw [hx1, Nat.add_zero] at s9
                    have e9 : (kindsI [x]).getD 0 0 = ki := hx2
                    rw [e9] at s9
                    have s9 := (keeps_none HB4.out).cell_of s9 id
                    have hk0b : (ki == 0) = false := by simp [hk0]
                    have hk0c : (ki != 0) = true := by simp [hk0]
                    clear r1 r2 hr hxx hx9 hx1 hx2 hb9 e9
                    go_quiet (fail)
                    go_wp2_with fail
                    go_roundw
                    case rel => exact ⟨k + 1, _, by omega, by go_num, rfl⟩
                    case measure => simp [intOf]; omega
                · have h14b : (op == 14) = false := by simp [h14]
                  clear hr s2
                  go_quiet (fail)
                  go_wp2_with fail
                  go_roundw
                  case rel => exact ⟨k + 1, _, by omega, by go_num, rfl⟩
                  case measure => simp [intOf]; omega
            · obtain rfl : k = n2 := by omega
              have HB9 := Lib.hid (HB4.out)
              go_wp2_with fail
              go_roundw
              case rel => exact ⟨i + 1, by omega, by go_num, below_drewK HB9.out _⟩
              case measure => simp [intOf]; omega
        · obtain rfl : i = n5 := by omega
          have HB := Lib.hid (HB3.out.trans (hbw.mono HB3.out.size))
          clear hbw
          go_wp2_with fail
          go_ret
          exact ⟨rfl, HB.out⟩
theorem verifyBounds_of (p : Pg) (g : Int) (vf : Value) (w : World) (hp : ProgAt w (.agg #[.int .i64 g, vf]) p) (hE : ErrT w) : Calls Tryd.prog 6 #[.agg #[.int .i64 g, vf]] w fun e w' => e = .returned (.bool true) ∧ Below w.heap.size w w' := verifyBounds_any p _ w hp hE
end Go.Proofs.YtlfcfaceeloedaaDoor
