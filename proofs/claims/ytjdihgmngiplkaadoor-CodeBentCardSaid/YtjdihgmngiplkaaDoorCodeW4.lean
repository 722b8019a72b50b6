/-
  The walk of package code's Encode.
-/
import Derived.Test.YtjdihgmngiplkaaDoorCodeW3
import Derived.Test.YtjdihgmngiplkaaDoorStepA
import Derived.Test.YtjdihgmngiplkaaDoorSealG
namespace Go.Proofs.YtjdihgmngiplkaaDoor
open Go.RowKit Cd

theorem fnParts_snoc : ∀ (l : List FnV) (k : Nat) (f : FnV), fnParts k (l ++ [f]) = fnParts k l ++ [(98 + (k + l.length), txt (fnL f))]
  | [], k, f => rfl
  | g :: l, k, f => by
    rw [List.cons_append, fnParts, fnParts, fnParts_snoc l (k + 1) f, List.length_cons, List.cons_append]
    rw [show k + 1 + l.length = k + (l.length + 1) by omega]
theorem fnParts_take {l : List FnV} {k : Nat} {f : FnV} (h : l[k]? = some f) : fnParts 0 (l.take (k + 1)) = fnParts 0 (l.take k) ++ [(98 + k, txt (fnL f))] := by
  have hk := (List.getElem?_eq_some_iff.1 h).1
  rw [List.take_add_one, h, Option.toList_some, fnParts_snoc, List.length_take, Nat.zero_add, Nat.min_eq_left (Nat.le_of_lt hk)]
theorem own_first (w : World) (x y : Value) (e : TypeId) : (w.alloc (.cells #[x, y] e)).ownsRow w.heap.size e 2 (.slice (some ⟨w.heap.size, 0, none⟩) 1 1) 1 [x, y] :=
  ⟨rfl, .inr ⟨w.heap.size, 1, #[x, y], rfl, Nat.le_refl _, heap_alloc_new _ _, Nat.le_refl _, by decide, rfl, rfl⟩⟩
/-- A program that is small enough to be written. -/
structure PgS (p : Pg) : Prop where
  right : PgR p
  code : ∀ f ∈ p.fns, f.code.length ≤ 120
/-- The text of a program. -/
def encT (p : Pg) : ByteArray := if progE p = 0 then txt (wholeL 80 (partsC p)) else txt []
theorem encT_ok {p : Pg} (h : progE p = 0) : encT p = txt (wholeL 80 (partsC p)) := if_pos h
theorem encT_bad {p : Pg} (h : progE p ≠ 0) : encT p = txt [] := if_neg h

theorem parts_total5 {p : Pg} (h : PgR p) (hs : ∀ f ∈ p.fns, f.code.length ≤ 5000) : (partsL (partsC p)).length ≤ 900000 := by
  have h1 := h.fns
  have h2 := Vy.enc_len10 p.globals.toNat (by have := h.globals; omega)
  have := partsL_len (partsC p) 55043 (fun q hq => by
    rcases List.mem_cons.1 hq with rfl | hq
    · show (txt _).size ≤ _
      rw [txt_size]; omega
    · refine parts_each p.fns 0 55043 (fun f hf => ?_) q hq
      have a := fnL_len (h.each f hf)
      have b := hs f hf
      omega) (by decide)
  have hl : (partsC p).length ≤ 13 := by unfold partsC; rw [List.length_cons, parts_len]; omega
  have : (partsC p).length * (55043 + 15) ≤ 13 * (55043 + 15) := Nat.mul_le_mul_right _ hl
  omega

set_option maxRecDepth 100000 in
set_option maxHeartbeats 6400000 in
theorem encode_any (p : Pg) (v : Value) (w : World) (hp : ProgAt w v p) (hsm : ∀ f ∈ p.fns, f.code.length ≤ 5000) (hL : Leaves w) :
    Calls Tryd.prog 12 #[v] w fun e w' => e = .returned (.tuple #[.string (encT p), errV (progE p)]) ∧ Below w.heap.size w w' := by
  have HP := Lib.hid hp
  obtain ⟨vf, rfl, ao, n, cap, rfl, hn, hnc, hcm, hx⟩ := hp
  unfold maxLen at hcm
  have hb0 := (Below.refl w.heap.size w).alloc (Nat.le_refl _) (.cells #[.int .i64 p.globals, .slice ao n cap] 24)
  have HB0 := Lib.hid hb0
  have HN := Lib.hid hn
  have HX : Hid (∀ W, Below w.heap.size w W → 0 < n → ∃ b o, ao = some ⟨b, o, none⟩ ∧ ∀ i f, p.fns[i]? = some f → FnAt W b (o + i * 4) f) := Lib.hid fun W hW h0 => by
    obtain ⟨b, o, h1, h2, h3⟩ := hx h0
    exact ⟨b, o, h1, fun i f hi => (h3 i f hi).below hW⟩
  have HL := Lib.hid hL
  have HR := Lib.hid (right_any p _ _ (HP.out.below hb0))
  have HRE : Hid (progE p = 0 ∨ progE p ≠ 0) := Lib.hid (by omega)
  obtain ⟨gl, hgl⟩ : ∃ gl, gl = p.globals := ⟨_, rfl⟩
  have HGL := Lib.hid hgl
  rw [← hgl] at HR HP hb0 HB0 ⊢
  have hx0 := cell_of_row (w.alloc (.cells #[.int .i64 gl, .slice ao n cap] 24)) w.heap.size 0 _ _ _ (heap_alloc_new _ _)
  have hx1 := cell_of_row (w.alloc (.cells #[.int .i64 gl, .slice ao n cap] 24)) w.heap.size 1 _ _ _ (heap_alloc_new _ _)
  have hsz1 : w.heap.size < (w.alloc (.cells #[.int .i64 gl, .slice ao n cap] 24)).heap.size := by simp
  have hr9 := HRE.out
  clear hx hn hL hgl HRE
  go_enter Tryd.func12, Tryd.ntmps12
  go_upto_region 1 with fail
  generalize hW1 : w.alloc (.cells #[.int .i64 gl, .slice ao n cap] 24) = W1 at *
  clear hW1
  have HC : Hid (∀ V, Below W1.heap.size W1 V → V.cell? ⟨w.heap.size, 0, none⟩ = some (.int .i64 gl) ∧ V.cell? ⟨w.heap.size, 1, none⟩ = some (.slice ao n cap)) := Lib.hid fun V hV =>
    ⟨by rw [hV.cell (p := ⟨w.heap.size, 0, none⟩) hsz1]; exact hx0, by rw [hV.cell (p := ⟨w.heap.size, 1, none⟩) hsz1]; exact hx1⟩
  clear hx0 hx1 hb0
  obtain ⟨hx0, hx1⟩ := HC.out _ (Below.refl _ _)
  go_wp2_with fail
  refine HR.out.mono ?_
  rintro e w2 ⟨rfl, hb2⟩
  rcases hr9 with h0 | h0
  · have HPR := Lib.hid ((progE_iff p).1 h0)
    have HE : Hid (encT p = txt (wholeL 80 (partsC p)) ∧ progE p = 0) := Lib.hid ⟨encT_ok h0, h0⟩
    obtain ⟨g, rfl⟩ : ∃ g : Nat, gl = (g : Int) := ⟨gl.toNat, by have := HPR.out.globals0; rw [HGL.out]; omega⟩
    have HG2 : Hid (g = p.globals.toNat) := Lib.hid (by rw [← HGL.out]; rfl)
    have hg8 : g ≤ 8 := by have := HPR.out.globals; have := HG2.out; omega
    have hn12 : n ≤ 12 := by rw [HN.out]; exact HPR.out.fns
    rw [h0, errV_0]
    clear hx0 hx1 h0
    obtain ⟨hx0, hx1⟩ := HC.out _ hb2
    have HB2 := Lib.hid hb2
    have HC1 := Lib.hid (count_t g w2 w2 (by omega) (Below.refl _ _))
    clear hb2 HR
    go_wp2_with fail
    refine HC1.out.mono ?_
    rintro e w3 ⟨t, rfl, HT, hts, hb3⟩
    have HB3 := Lib.hid (HB2.out.trans (hb3.mono HB2.out.size))
    clear hx0 hx1 hb3 HC1 HB2
    have hal := (Below.refl w3.heap.size w3).alloc (Nat.le_refl _) (.cells #[.int .u8 97, .string t] 51)
    have HB4 := Lib.hid (HB3.out.trans (hal.mono HB3.out.size))
    have HO4 := Lib.hid (own_first w3 (.int .u8 97) (.string t) 51)
    have hsz4 : w3.heap.size < (w3.alloc (.cells #[.int .u8 97, .string t] 51)).heap.size := by simp
    obtain ⟨hx0, hx1⟩ := HC.out _ HB4.out
    go_upto_region 5 with fail
    generalize hw4 : w3.alloc (.cells #[.int .u8 97, .string t] 51) = w4 at *
    have HS3 : Hid (W1.heap.size ≤ w3.heap.size) := Lib.hid HB3.out.size
    generalize hB4 : w3.heap.size = B4 at *
    clear hal hw4 hB4 HB3
    go_wp2_with fail
    have HPT : Hid (txt (Vy.enc p.globals.toNat) = t) := Lib.hid (by rw [← HG2.out, HT.out])
    have HP0 : Hid (cellsP ((97, txt (Vy.enc p.globals.toNat)) :: fnParts 0 (p.fns.take 0)) = [.int .u8 97, .string t]) := Lib.hid (by rw [List.take_zero, HPT.out]; rfl)
    go_loopw [21, 5] (fun iv v wr => ∃ k : Nat, k ≤ n ∧ iv = .int .i64 k ∧ wr.ownsRow B4 51 2 v (k + 1) (cellsP ((97, txt (Vy.enc p.globals.toNat)) :: fnParts 0 (p.fns.take k))) ∧ Below W1.heap.size W1 wr ∧ B4 ≤ wr.heap.size) (fun iv _ _ => n - (intOf iv).toNat)
    case atStart => exact ⟨0, Nat.zero_le _, rfl, by rw [HP0.out]; exact HO4.out, HB4.out, Nat.le_of_lt hsz4⟩
    case round =>
      obtain ⟨k, hk, rfl, hown, hbel, hle⟩ := hrel
      rename World => wr
      have HO := Lib.hid hown
      have HB := Lib.hid hbel
      obtain ⟨ao5, cap5, hv5⟩ := slice_of_own hown
      subst hv5
      clear hown hbel HO4 HB4 hsz4 HP0 hx0 hx1
      by_cases hkn : k < n
      · obtain ⟨b, o, rfl, hfn⟩ := HX.out _ (HB0.out.trans (HB.out.mono HB0.out.size)) (by omega)
        have hkl : k < p.fns.length := by rw [← HN.out]; exact hkn
        obtain ⟨f, hf⟩ : ∃ f, p.fns[k]? = some f := ⟨_, List.getElem?_eq_getElem hkl⟩
        obtain ⟨hc1, ⟨vl, hc2, hli⟩, hc3, vc, hc4, hci⟩ := hfn k f hf
        have HF := Lib.hid hf
        have HLI := Lib.hid hli
        have HCI := Lib.hid hci
        have HFR : Hid (FnR f ∧ f.code.length ≤ 5000) := Lib.hid (by
          have hm : f ∈ p.fns := List.mem_of_getElem? hf
          exact ⟨HPR.out.each f hm, hsm f hm⟩)
        have HTK := Lib.hid (fnParts_take hf)
        have hi1 : (k : Int) < (n : Int) := by omega
        clear hfn hf hkl hli hci
        obtain ⟨pa, hpa⟩ : ∃ x, x = f.params := ⟨_, rfl⟩
        obtain ⟨ki, hki⟩ : ∃ x, x = f.kind := ⟨_, rfl⟩
        rw [← hpa] at hc1
        rw [← hki] at hc3
        have hal := (Below.refl wr.heap.size wr).alloc (Nat.le_refl _) (.cells #[.int .i64 pa, vl, .int .i64 ki, vc] 47)
        have HC2 : Hid (∀ V, Below (wr.alloc (.cells #[.int .i64 pa, vl, .int .i64 ki, vc] 47)).heap.size (wr.alloc (.cells #[.int .i64 pa, vl, .int .i64 ki, vc] 47)) V → Calls Tryd.prog 32 #[.agg #[.int .i64 pa, vl, .int .i64 ki, vc]] V fun e w' => ∃ s, e = .returned (.string s) ∧ Hid (s = txt (fnL f)) ∧ Below (wr.alloc (.cells #[.int .i64 pa, vl, .int .i64 ki, vc] 47)).heap.size (wr.alloc (.cells #[.int .i64 pa, vl, .int .i64 ki, vc] 47)) w') := Lib.hid fun V hV => by
          rw [hpa, hki]
          rw [hpa, hki] at hV
          have hbv : Below wr.heap.size wr V := by
            rw [hpa, hki] at hal
            exact hal.trans (hV.mono hal.size)
          exact (fnText_any f vl vc V HFR.out.1 (HLI.out.below hbv) (HCI.out.below hbv)).mono fun e w' ⟨he, hb⟩ => ⟨_, he, Lib.hid rfl, hV.trans (hb.mono hV.size)⟩
        obtain ⟨a1, n1, c1, hvl, -⟩ := HLI.out
        obtain ⟨a2, n2, c2, hvc, -⟩ := HCI.out
        subst hvl hvc
        have hy0 : (wr.alloc (.cells #[.int .i64 pa, .slice a1 n1 c1, .int .i64 ki, .slice a2 n2 c2] 47)).cell? ⟨wr.heap.size, 0, none⟩ = some (.int .i64 pa) := cell_of_row _ _ _ _ _ _ (heap_alloc_new _ _)
        have hy1 : (wr.alloc (.cells #[.int .i64 pa, .slice a1 n1 c1, .int .i64 ki, .slice a2 n2 c2] 47)).cell? ⟨wr.heap.size, 1, none⟩ = some (.slice a1 n1 c1) := cell_of_row _ _ _ _ _ _ (heap_alloc_new _ _)
        have hy2 : (wr.alloc (.cells #[.int .i64 pa, .slice a1 n1 c1, .int .i64 ki, .slice a2 n2 c2] 47)).cell? ⟨wr.heap.size, 2, none⟩ = some (.int .i64 ki) := cell_of_row _ _ _ _ _ _ (heap_alloc_new _ _)
        have hy3 : (wr.alloc (.cells #[.int .i64 pa, .slice a1 n1 c1, .int .i64 ki, .slice a2 n2 c2] 47)).cell? ⟨wr.heap.size, 3, none⟩ = some (.slice a2 n2 c2) := cell_of_row _ _ _ _ _ _ (heap_alloc_new _ _)
        have hxa : wr.heap.size < (wr.alloc (.cells #[.int .i64 pa, .slice a1 n1 c1, .int .i64 ki, .slice a2 n2 c2] 47)).heap.size := by simp
        have HNE : Hid (∀ e, (Value.slice ao5 (k + 1) cap5).ownBlock = some e → B4 ≤ e ∧ e ≠ wr.heap.size) := Lib.hid fun e he => by
          have := World.ownsRow.lt HO.out e he
          omega
        clear hpa hki
        go_upto_region 8 with fail
        have HAL := Lib.hid hal
        generalize hwa : wr.alloc (.cells #[.int .i64 pa, .slice a1 n1 c1, .int .i64 ki, .slice a2 n2 c2] 47) = wa at *
        have HOA := Lib.hid (own_below HO.out HAL.out)
        have HBA := Lib.hid (HB.out.trans (HAL.out.mono HB.out.size))
        have HLA : Hid (B4 ≤ wa.heap.size) := Lib.hid (by omega)
        generalize hxb : wr.heap.size = xb at *
        have HCB : Hid (∀ V, Below wa.heap.size wa V → V.cell? ⟨xb, 0, none⟩ = some (.int .i64 pa) ∧ V.cell? ⟨xb, 1, none⟩ = some (.slice a1 n1 c1) ∧ V.cell? ⟨xb, 2, none⟩ = some (.int .i64 ki) ∧ V.cell? ⟨xb, 3, none⟩ = some (.slice a2 n2 c2)) := Lib.hid fun V hV =>
          ⟨by rw [hV.cell (p := ⟨xb, 0, none⟩) hxa]; exact hy0, by rw [hV.cell (p := ⟨xb, 1, none⟩) hxa]; exact hy1, by rw [hV.cell (p := ⟨xb, 2, none⟩) hxa]; exact hy2, by rw [hV.cell (p := ⟨xb, 3, none⟩) hxa]; exact hy3⟩
        obtain ⟨d, hd⟩ : ∃ d, d = 98 + k := ⟨_, rfl⟩
        have HTG : Hid (∀ V : World, Calls Tryd.prog 31 #[.int .i64 (k : Int)] V fun e w' => e = .returned (.int .u8 (d : Int)) ∧ w' = V) := Lib.hid fun V => by
          have := tag_any k V (by omega)
          rw [show (98 + k) % 256 = d by omega] at this
          exact this
        have HD := Lib.hid hd
        have hbb : Below wa.heap.size wa wa := Below.refl _ _
        clear hwa hxb hal hxa hy0 hy1 hy2 hy3 hd hc1 hc2 hc3 hc4 HO HB HAL hle
        go_region_held3 (fun V : World => V.cell? ⟨xb, 0, none⟩ = some (.int .i64 pa) ∧ V.cell? ⟨xb, 1, none⟩ = some (.slice a1 n1 c1) ∧ V.cell? ⟨xb, 2, none⟩ = some (.int .i64 ki) ∧ V.cell? ⟨xb, 3, none⟩ = some (.slice a2 n2 c2)) (first | exact HCB.out _ (by assumption) | exact HCB.out _ (Below.drew (by assumption)) | assumption)
          ((first
            | (go_at_call 31; refine (HTG.out _).mono ?_; rintro e V ⟨rfl, rfl⟩)
            | (go_at_call 32; refine (HC2.out _ ?_).mono ?_; (first | assumption | exact Below.drew (by assumption)); rintro e V9 ⟨s9, rfl, HS9, hv9⟩; have hv9a := hv9.alloc hv9.size (.cells #[.int .u8 (d : Int), .string s9] 51); have HOV := Lib.hid (own_below HOA.out hv9a); have HZ9 := Lib.hid (HCB.out _ hv9a); have hbs9 : B4 ≤ (V9.alloc (.cells #[.int .u8 (d : Int), .string s9] 51)).heap.size := Nat.le_trans HLA.out hv9a.size; have hcn : ∀ (j : Nat) u, [Value.int .u8 (d : Int), .string s9][j]? = some u → (V9.alloc (.cells #[.int .u8 (d : Int), .string s9] 51)).cell? ⟨V9.heap.size, j, none⟩ = some u := fun j u hj => (cell_of_row _ _ _ _ _ _ (heap_alloc_new _ _)).trans (by simpa using hj))
            | (refine step_append1 rfl (.tmp 26) (.tmp 32) 52 51 (.agg #[.int .u8 0, .string ByteArray.empty]) 2 24 rfl Tryd.underlying52 info_part rfl (by decide) (by decide) B4 _ (k + 1) _ [.int .u8 (d : Int), .string s9] V9.heap.size 1 HOV.out (by omega) rfl hcn (by intro u hu; simp at hu; rcases hu with rfl | rfl <;> rfl) hbs9 (by simp [Act.eval]) (by simp [Act.eval]) ?_; intro ao9 cap9 w9 ho9 hk9; have HO9 := Lib.hid ho9; have HK9 := Lib.hid hk9; have hS9 : w9.cell? ⟨xb, 0, none⟩ = some (.int .i64 pa) ∧ w9.cell? ⟨xb, 1, none⟩ = some (.slice a1 n1 c1) ∧ w9.cell? ⟨xb, 2, none⟩ = some (.int .i64 ki) ∧ w9.cell? ⟨xb, 3, none⟩ = some (.slice a2 n2 c2) := ⟨hk9.cell_of HZ9.out.1 (fun e => (HNE.out _ e).2 rfl), hk9.cell_of HZ9.out.2.1 (fun e => (HNE.out _ e).2 rfl), hk9.cell_of HZ9.out.2.2.1 (fun e => (HNE.out _ e).2 rfl), hk9.cell_of HZ9.out.2.2.2 (fun e => (HNE.out _ e).2 rfl)⟩; clear ho9 hk9)))
        have HB9 : Hid (Below W1.heap.size W1 w9) := Lib.hid ((HBA.out.trans (hv9a.mono HBA.out.size)).trans (HK9.out.below (Nat.le_trans HBA.out.size hv9a.size) fun e _ he => Nat.le_trans HS3.out (HNE.out e he).1))
        have HT9 : Hid (cellsP ((97, txt (Vy.enc p.globals.toNat)) :: fnParts 0 (p.fns.take k)) ++ [.int .u8 (d : Int), .string s9] = cellsP ((97, txt (Vy.enc p.globals.toNat)) :: fnParts 0 (p.fns.take (k + 1)))) := Lib.hid (by
          rw [HTK.out, ← HD.out, ← HS9.out, ← List.cons_append, cellsP_snoc])
        have HL9 : Hid (B4 ≤ w9.heap.size) := Lib.hid (Nat.le_trans hbs9 HK9.out.size)
        clear hv9a hbs9 hcn hv9 hS9 hbb HOV HZ9
        go_wp2_with fail
        go_roundw
        case rel => exact ⟨k + 1, by omega, by go_num, by rw [← HT9.out]; exact HO9.out, HB9.out, HL9.out⟩
        case measure => simp [intOf]; omega
      · obtain rfl : k = n := by omega
        have HG := Lib.hid (good_parts HPR.out hsm)
        have HTT := Lib.hid (parts_total5 HPR.out hsm)
        have HOP : Hid (wr.ownsRow B4 51 2 (.slice ao5 (k + 1) cap5) (k + 1) (cellsP (partsC p))) := Lib.hid (by
          have h := HO.out
          rw [HN.out, List.take_length] at h
          rw [HN.out]
          exact h)
        have HPA := Lib.hid (partsAt_owns HOP.out HG.out.2.2.tag).1
        have HSG := Lib.hid (seal_good 80 _ (partsC p) wr (by decide) HPA.out HG.out.2.1 HTT.out (HL.out.next (HB0.out.trans (HB.out.mono HB0.out.size))))
        clear HX
        go_wp2_with fail
        refine HSG.out.mono ?_
        rintro e w5 ⟨re, t5, rfl, hre, hb5⟩
        have HB5 := Lib.hid ((HB0.out.trans (HB.out.mono HB0.out.size)).trans (hb5.mono (Nat.le_trans HB0.out.size HB.out.size)))
        rcases hre with ⟨_, rfl, rfl⟩ | ⟨hbad, _⟩
        · have HW : Hid (txt (wholeL 80 (partsC p)) = encT p) := Lib.hid HE.out.1.symm
          have HEZ : Hid (progE p = 0) := Lib.hid HE.out.2
          rw [HW.out, errV_0]
          clear hb5
          go_wp2_with fail
          go_ret2
          exact ⟨by rw [HEZ.out]; rfl, HB5.out⟩
        · exact absurd HG.out hbad
  · have HE : Hid (encT p = txt [] ∧ progE p ≠ 0) := Lib.hid ⟨encT_bad h0, h0⟩
    rw [errV_nz h0]
    clear h0
    go_wp2_with fail
    go_ret2
    exact ⟨by rw [HE.out.1, errV_nz HE.out.2]; rfl, HB0.out.trans (hb2.mono HB0.out.size)⟩
end Go.Proofs.YtjdihgmngiplkaaDoor
