/-
  Texts of one proof, in build order: The reader's functions, whole. | The reader's globals; globals and functions in memory. | The reader's program: what its loop keeps. | The reader's program, whole. | tree.Parse: what is caught. | The tokens of a text, as the reader takes them: how many, and what numbers are.
-/
import Derived.Test.YtgonbmcojjcabaaGreatDoorAg6
import Derived.Recover
import Derived.Lib.ParseIntBCases
namespace Go.Proofs.YtgonbmcojjcabaaGreatDoor
open Go.RowKit Lx Tr
variable {w w' : World} {rb n d dd : Nat} {tv : Value} {E : Env}

def FuC (w : World) (F : Nat → Prop) (vs : List Value) (g : Fu) : Prop := ∃ pv bv, vs = fu1 g.name g.at_ pv g.kind bv ∧ PaRow w F pv g.params ∧ StsF w F g.body bv
def FuV (w w' : World) (g : Fu) (v : Value) : Prop := ∃ vs : List Value, v = .agg vs.toArray ∧ FuC w' (fun b => w.heap.size ≤ b) vs g
theorem PaRow.form {F : Nat → Prop} {v : Value} {l : List Pa} (h : PaRow w F v l) : ∃ a c, v = .slice a l.length c := by
  rcases h with ⟨h, h2⟩ | ⟨g, cap, h, _⟩
  · exact ⟨none, 0, by rw [h, h2]; rfl⟩
  · exact ⟨_, _, h⟩

theorem listR_ev {r : Res (List Pa)} (hr : r ≠ .out) (h : ListR E (fun acc m r => Ev (fun f => params E f acc m) r) [] n r) : Ev (fun f => (take E tLp n).bind fun _ n3 => if (pk E n3).text = tRp then .ok [] (n3 + 1) else params E f [] n3) r := by
  rcases h with ⟨k, a, h1, rfl⟩ | ⟨t1, n1, h1, ⟨h2, rfl⟩ | ⟨h2, h3⟩⟩
  · exact Ev.pure (fun e => by cases e) fun f => by rw [h1]; rfl
  · exact Ev.pure (fun e => by cases e) fun f => by rw [h1]; show (if _ then _ else _) = _; rw [if_pos h2]
  · exact ⟨hr, h3.2.imp fun f0 hf f hle => by rw [h1]; show (if _ then _ else _) = _; rw [if_neg h2]; exact hf f hle⟩
theorem funItems {w0 : World} {dep rv fb A : Nat} {name : B} (hk : Keeps (fun b => b = rb) w0 w) (hlt : rb < w0.heap.size) :
    ItemC w rb tv E dep 91 #[.pointer (some ⟨rv, 0, none⟩), .pointer (some ⟨fb, 0, none⟩)]
      (fun W m acc => FunJ w0 rb tv E dep rv fb w A name W m acc) (fun acc m r => Ev (fun f => params E f acc m) r) :=
  ⟨fun _ _ _ h => h.rd, fun _ _ _ _ _ hm h hk2 hr2 => h.on hm hk2 hr2, fun _ _ _ h => below_of_two hk h.kp h.lo.2.2.2.2 (Nat.le_of_lt hlt) (fun b e => Nat.le_of_eq (show rb = b from e.symm)), fun _ _ _ h => funItem_any h⟩

set_option maxRecDepth 100000 in
set_option maxHeartbeats 12800000 in
theorem function_any (w : World) (h : RdAt w rb tv E n 0) (hE : TEnv rb E w) : Calls Tryz.prog 61 #[.pointer (some ⟨rb, 0, none⟩)] w fun e w' => ∃ r, Ev (fun f => Tr.function E f n) r ∧ Says FuV w w' rb tv E 0 r e := by
  have hb0 : Below w.heap.size w ((w.alloc (.cells #[.pointer (some ⟨rb, 0, none⟩)] 109)).alloc (.cells #[.string ⟨#[]⟩, .int .i64 0, .slice none 0 0, .int .i64 0, .slice none 0 0] 45)) := ((Keeps.refl (fun _ => False) w).alloc _).alloc _ |>.below (Nat.le_refl _) (fun _ _ e => e.elim)
  have cr0 : ((w.alloc (.cells #[.pointer (some ⟨rb, 0, none⟩)] 109)).alloc (.cells #[.string ⟨#[]⟩, .int .i64 0, .slice none 0 0, .int .i64 0, .slice none 0 0] 45)).cell? ⟨w.heap.size, 0, none⟩ = some (.pointer (some ⟨rb, 0, none⟩)) := cell_more (cell_new _ _ _ 0 _ rfl rfl)
  have rv0 : Blk ((w.alloc (.cells #[.pointer (some ⟨rb, 0, none⟩)] 109)).alloc (.cells #[.string ⟨#[]⟩, .int .i64 0, .slice none 0 0, .int .i64 0, .slice none 0 0] 45)) (w.heap.size + 1) (fu1 [] 0 (.slice none 0 0) 0 (.slice none 0 0)) := Blk.new' _ (fu1 [] 0 (.slice none 0 0) 0 (.slice none 0 0)) _ (by simp)
  have htk := take_tok ⟨#[102, 117, 110, 99]⟩ (by decide) _ (h.fresh hb0)
  have e1 : (⟨#[102, 117, 110, 99]⟩ : ByteArray).data.toList = tFunc := rfl
  rw [e1] at htk
  have HT := Lib.hid htk
  have HE := Lib.hid hE
  have HLT := Lib.hid h.lt
  have HB0 := Lib.hid hb0
  have HCR0 := Lib.hid cr0
  have HRV0 := Lib.hid rv0
  clear h hE htk e1 hb0 cr0 rv0
  cases ht : take E tFunc n with
  | out => exact absurd ht (take_ne E _ _)
  | bad k a =>
    rw [ht] at HT
    have HEV : Hid (Ev (fun f => Tr.function E f n) (.bad k a)) := Lib.hid (Ev.pure (fun e => by cases e) fun f => by unfold Tr.function; rw [ht]; rfl)
    clear ht
    go_enter Tryz.func61, Tryz.ntmps61
    go_wp2_with fail
    refine HT.out.mono ?_
    rintro e w1 hth
    have hth2 := Threw.with (S := fun _ => False) hth HLT.out (Keeps.of_new HB0.out) (fun b e => e.elim)
    obtain ⟨b, rfl⟩ := threw_panic hth
    exact ⟨rfl, _, HEV.out, hth2⟩
  | ok t0 n1 =>
    rw [ht] at HT
    have HT0 := Lib.hid ht
    clear ht
    go_enter Tryz.func61, Tryz.ntmps61
    go_wp2_with fail
    refine HT.out.mono ?_
    rintro e w1 ⟨v1, rfl, _, hr1, hk1⟩
    have hlt0 := HLT.out
    have cr1 : w1.cell? ⟨w.heap.size, 0, none⟩ = some (.pointer (some ⟨rb, 0, none⟩)) := hk1.cell_of HCR0.out (fun e => by have : w.heap.size = rb := e; omega)
    have HRV1 := Lib.hid (HRV0.out.keeps hk1 (fun e => by have : w.heap.size + 1 = rb := e; omega))
    have HK1 : Hid (Keeps (fun b => b = rb) w w1) := Lib.hid ((Keeps.of_new HB0.out).trans hk1)
    have HTK := Lib.hid (takeKind_tok 1 (by decide) w1 hr1)
    clear hr1 hk1 hlt0
    go_wp2_with fail
    cases ht : takeKind E 1 n1 with
    | out => exact absurd ht (takeKind_ne E _ _)
    | bad k a =>
      rw [ht] at HTK
      refine HTK.out.mono ?_
      rintro e w2 hth
      have hth2 := Threw.own hth HLT.out HK1.out
      obtain ⟨b, rfl⟩ := threw_panic hth
      refine ⟨rfl, .bad k a, Ev.pure (fun e => by cases e) fun f => ?_, hth2⟩
      unfold Tr.function; rw [HT0.out]
      show (takeKind E 1 n1).bind _ = _
      rw [ht]; rfl
    | ok t n2 =>
      rw [ht] at HTK
      have HT1 := Lib.hid ht
      clear ht
      unfold Says TokIs tokV at HTK
      simp only at HTK
      refine HTK.out.mono ?_
      rintro e w2 ⟨v2, rfl, rfl, hr2, hk2⟩
      have hlt0 := HLT.out
      have hsz1 := HK1.out.size
      have hsz2 := hk2.size
      have hlv1 := HRV1.out.lt
      have cr2 := hk2.cell_of cr1 (fun e => by have : w.heap.size = rb := e; omega)
      have hrv2 := HRV1.out.keeps hk2 (fun e => by have : w.heap.size + 1 = rb := e; omega)
      obtain ⟨fb, hfb⟩ : ∃ fb, fb = w2.heap.size + 1 := ⟨_, rfl⟩
      have hb3 : Below w2.heap.size w2 ((w2.alloc (.cells #[.int .i64 (t.kind : Nat), .string (mkT t.text), .int .i64 (t.at_ : Nat)] 100)).alloc (.cells #[.string (mkT t.text), .int .i64 (t.at_ : Nat), .slice none 0 0, .int .i64 0, .slice none 0 0] 45)) := ((Keeps.refl (fun _ => False) w2).alloc _).alloc _ |>.below (Nat.le_refl _) (fun _ _ e => e.elim)
      have hB3 : Blk ((w2.alloc (.cells #[.int .i64 (t.kind : Nat), .string (mkT t.text), .int .i64 (t.at_ : Nat)] 100)).alloc (.cells #[.string (mkT t.text), .int .i64 (t.at_ : Nat), .slice none 0 0, .int .i64 0, .slice none 0 0] 45)) fb (fu1 t.text t.at_ (.slice none 0 0) 0 (.slice none 0 0)) := Blk.new' _ (fu1 t.text t.at_ (.slice none 0 0) 0 (.slice none 0 0)) _ (by rw [hfb]; simp)
      have hsz3 : ((w2.alloc (.cells #[.int .i64 (t.kind : Nat), .string (mkT t.text), .int .i64 (t.at_ : Nat)] 100)).alloc (.cells #[.string (mkT t.text), .int .i64 (t.at_ : Nat), .slice none 0 0, .int .i64 0, .slice none 0 0] 45)).heap.size = w2.heap.size + 2 := by simp
      have hk3 : Keeps (fun b => b = rb) w ((w2.alloc (.cells #[.int .i64 (t.kind : Nat), .string (mkT t.text), .int .i64 (t.at_ : Nat)] 100)).alloc (.cells #[.string (mkT t.text), .int .i64 (t.at_ : Nat), .slice none 0 0, .int .i64 0, .slice none 0 0] 45)) := (HK1.out.trans hk2).trans (Keeps.of_new hb3)
      have cr3 : ((w2.alloc (.cells #[.int .i64 (t.kind : Nat), .string (mkT t.text), .int .i64 (t.at_ : Nat)] 100)).alloc (.cells #[.string (mkT t.text), .int .i64 (t.at_ : Nat), .slice none 0 0, .int .i64 0, .slice none 0 0] 45)).cell? ⟨w.heap.size, 0, none⟩ = some (.pointer (some ⟨rb, 0, none⟩)) := cell_more (cell_more cr2)
      have hJ : FunJ w rb tv E 0 w.heap.size fb ((w2.alloc (.cells #[.int .i64 (t.kind : Nat), .string (mkT t.text), .int .i64 (t.at_ : Nat)] 100)).alloc (.cells #[.string (mkT t.text), .int .i64 (t.at_ : Nat), .slice none 0 0, .int .i64 0, .slice none 0 0] 45)) t.at_ t.text ((w2.alloc (.cells #[.int .i64 (t.kind : Nat), .string (mkT t.text), .int .i64 (t.at_ : Nat)] 100)).alloc (.cells #[.string (mkT t.text), .int .i64 (t.at_ : Nat), .slice none 0 0, .int .i64 0, .slice none 0 0] 45)) n2 [] :=
        ⟨hr2.fresh hb3, (HE.out.own (HK1.out.trans hk2)).fresh hb3, hk3, cr3, ⟨_, hB3, World.ownsRow_nil _ _ _ _, fun _ => rfl⟩, Nat.zero_le _, ⟨hlt0, Nat.le_refl _, by omega, by rw [hsz3]; omega, Nat.le_refl _⟩, Keeps.refl _ _⟩
      have HLS := Lib.hid (list_fn (funItems hk3 hlt0) [] hJ)
      have HRV3 := Lib.hid (hrv2.keeps (S := fun _ => False) (Keeps.of_new hb3) id)
      have HK3 := Lib.hid hk3
      have HFB := Lib.hid hfb
      have HSZ3 := Lib.hid (show w.heap.size + 1 < fb by omega)
      clear hr2 hk2 hlt0 hsz1 hsz2 hlv1 hrv2 hb3 hB3 hsz3 hk3 hJ
      go_wp2_with fail
      rw [← hfb]
      clear hfb
      have HEVF : Hid (∀ r, Ev (fun f => ((take E tLp n2).bind fun _ n3 => if (pk E n3).text = tRp then .ok [] (n3 + 1) else params E f [] n3).bind fun ps n4 => (Tr.block E f 0 (if kindV (pk E n4).text = 0 then n4 else n4 + 1)).bind fun b n5 => .ok ⟨t.text, t.at_, ps, kindV (pk E n4).text, b⟩ n5) r → Ev (fun f => Tr.function E f n) r) := Lib.hid fun r hr => ⟨hr.1, hr.2.imp fun f0 hf f hle => by
        show Tr.function E f n = _
        unfold Tr.function
        rw [HT0.out]
        show (takeKind E 1 n1).bind _ = _
        rw [HT1.out, ← hf f hle]
        simp only [bind_assoc]
        rfl⟩
      refine HLS.out.mono ?_
      rintro e w4 ⟨r, hl, hsay⟩
      cases r with
      | out => exact hsay.elim
      | bad k a =>
        have hsay' : Threw _ w4 rb k a e := hsay
        have HEV := Lib.hid (HEVF.out _ (Ev.bad (listR_ev (fun e => by cases e) hl)))
        obtain ⟨b, rfl⟩ := threw_panic hsay'
        exact ⟨rfl, _, HEV.out, hsay'.own HLT.out HK3.out⟩
      | ok ps n4 =>
        obtain ⟨rfl, hj4⟩ := hsay
        have HEVL := Lib.hid (listR_ev (fun e => by cases e) hl)
        obtain ⟨pv, hB4, hP4⟩ := hj4.pas
        obtain ⟨pa, pc, rfl⟩ := hP4.form
        have hlo4 := hj4.lo
        have cr4 := hj4.cr
        have HKD := Lib.hid (kind_tok w4 hj4.rd hj4.env.kinds (by have := hj4.env.b2; omega))
        have hrv4 := HRV3.out.keeps hj4.kl (fun e => by have := HSZ3.out; rcases e with e | e <;> omega)
        have HB4 := Lib.hid hB4
        have HP4 := Lib.hid hP4
        have HRV4 := Lib.hid hrv4
        have HJ4 := Lib.hid hj4
        have HLO := Lib.hid (show rb < w.heap.size ∧ w.heap.size + 1 < fb from ⟨hlo4.1, HSZ3.out⟩)
        have HWL := Lib.hid (show fb < w4.heap.size from hB4.lt)
        have HP4' : Hid (PaRow w4 (fun b => fb < b) (.slice pa ps.length pc) ps) := Lib.hid (PaRow.mono (fun b _ e => by have := hlo4.2.2.2.1; omega) hP4)
        clear hl hlo4 hB4 hP4 hrv4 hj4
        go_wp2_with fail
        refine HKD.out.mono ?_
        rintro e w5 ⟨rfl, hr5, hk5⟩
        have hL := HLO.out
        have hB5 := HB4.out.keeps hk5 (fun e => by have : fb = rb := e; omega)
        have cr5 : w5.cell? ⟨w.heap.size, 0, none⟩ = some (.pointer (some ⟨rb, 0, none⟩)) := hk5.cell_of cr4 (fun e => by have : w.heap.size = rb := e; omega)
        have c3 := hB5.at_ 3 _ rfl
        have z3 := hB5.free 3
        have hks : Keeps (fun b => b = fb) w5 (w5.setCell ⟨fb, 3, none⟩ (.int .i64 (kindV (pk E n4).text : Nat))) := own1
        have hB6 : Blk (w5.setCell ⟨fb, 3, none⟩ (.int .i64 (kindV (pk E n4).text : Nat))) fb (fu1 t.text t.at_ (.slice pa ps.length pc) (kindV (pk E n4).text) (.slice none 0 0)) := hB5.set 3 (.int .i64 (kindV (pk E n4).text : Nat)) (by simp [fu1])
        have cr6 : (w5.setCell ⟨fb, 3, none⟩ (.int .i64 (kindV (pk E n4).text : Nat))).cell? ⟨w.heap.size, 0, none⟩ = some (.pointer (some ⟨rb, 0, none⟩)) := hks.cell_of cr5 (fun e => by have : w.heap.size = fb := e; omega)
        have hk6 : Keeps (fun b => b = rb) w (w5.setCell ⟨fb, 3, none⟩ (.int .i64 (kindV (pk E n4).text : Nat))) := (HJ4.out.kp.trans hk5).trans' hks (fun i hi e => by have : i = fb := e; omega)
        have HB6 := Lib.hid hB6
        have HP6 : Hid (PaRow (w5.setCell ⟨fb, 3, none⟩ (.int .i64 (kindV (pk E n4).text : Nat))) (fun b => fb < b) (.slice pa ps.length pc) ps) := Lib.hid ((HP4'.out.keeps hk5 (fun b e e2 => by have : fb < b := e; have : b = rb := e2; omega)).keeps hks (fun b e e2 => by have : fb < b := e; have : b = fb := e2; omega))
        have HRV6 := Lib.hid ((HRV4.out.keeps hk5 (fun e => by have : w.heap.size + 1 = rb := e; omega)).keeps hks (fun e => by have : w.heap.size + 1 = fb := e; omega))
        have HK6 := Lib.hid hk6
        have HBL := Lib.hid (RBlock (dep := 0) (by decide) (if kindV (pk E n4).text = 0 then n4 else n4 + 1) _ (hr5.two hks (by omega)) (HE.out.own hk6))
        have HNE := Lib.hid (show ¬ fb = rb ∧ ¬ w.heap.size + 1 = rb by omega)
        clear hL hB5 hks hB6 hr5 hk5 hk6 cr4
        have HEV4 : Hid (∀ r, Ev (fun f => (Tr.block E f 0 (if kindV (pk E n4).text = 0 then n4 else n4 + 1)).bind fun b n5 => .ok ⟨t.text, t.at_, ps, kindV (pk E n4).text, b⟩ n5) r → Ev (fun f => Tr.function E f n) r) := Lib.hid fun r hr => HEVF.out _ (Ev.then HEVL.out hr)
        generalize kindV (pk E n4).text = kk at *
        go_wp2_with fail
        refine HBL.out.mono ?_
        rintro e w7 ⟨r, hev, hsay⟩
        clear c3 z3 cr5 cr6
        have HEV : Hid (Ev (fun f => Tr.function E f n) (r.bind fun b n5 => .ok ⟨t.text, t.at_, ps, kk, b⟩ n5)) := Lib.hid (HEV4.out _ (Ev.map _ (fun _ _ e => by cases e) hev))
        cases r with
        | out => exact hsay.elim
        | bad k a =>
          have hsay' : Threw _ w7 rb k a e := hsay
          obtain ⟨b, rfl⟩ := threw_panic hsay'
          exact ⟨rfl, _, HEV.out, hsay'.own HLT.out HK6.out⟩
        | ok l n5 =>
          obtain ⟨v7, rfl, hl7, hr7, hk7⟩ := hsay
          obtain ⟨la, ll, lc, rfl⟩ := hl7.1.form
          have hB7 := HB6.out.keeps hk7 HNE.out.1
          have hV7 := HRV6.out.keeps hk7 HNE.out.2
          have c0 := hB7.at_ 0 _ rfl
          have c1 := hB7.at_ 1 _ rfl
          have c2 := hB7.at_ 2 _ rfl
          have c3 := hB7.at_ 3 _ rfl
          have c4 := hB7.at_ 4 _ rfl
          have z4 := hB7.free 4
          have r0 := hV7.at_ 0 _ rfl
          have r1 := hV7.at_ 1 _ rfl
          have r2 := hV7.at_ 2 _ rfl
          have r3 := hV7.at_ 3 _ rfl
          have r4 := hV7.at_ 4 _ rfl
          have y0 := hV7.free 0
          have y1 := hV7.free 1
          have y2 := hV7.free 2
          have y3 := hV7.free 3
          have y4 := hV7.free 4
          have hne : w.heap.size + 1 ≠ fb := by have := HLO.out; omega
          have hne2 : fb ≠ w.heap.size + 1 := fun e => hne e.symm
          have hsz6 := HK6.out.size
          have HL7 : Hid (StsF w7 (fun b => fb < b) l (.slice la ll lc)) := Lib.hid (StsF.mono (fun b e => by have h1 := HB6.out.lt; have h2 : _ ≤ b := e; show fb < b; omega) hl7)
          have HP7 : Hid (PaRow w7 (fun b => fb < b) (.slice pa ps.length pc) ps) := Lib.hid (HP6.out.keeps hk7 (fun b e e2 => by have : fb < b := e; have : b = rb := e2; have := HLO.out; omega))
          have HR7 := Lib.hid hr7
          have HK7 := Lib.hid (HK6.out.trans hk7)
          have HNN := Lib.hid hne
          clear hB7 hV7 hl7 hr7 hk7 hev hsz6
          go_wp2_with fail
          have hks : Keeps (fun b => b = fb ∨ b = w.heap.size + 1) w7 ((((((w7.setCell ⟨fb, 4, none⟩ (.slice la ll lc)).setCell ⟨w.heap.size + 1, 0, none⟩ (.string (mkT t.text))).setCell ⟨w.heap.size + 1, 1, none⟩ (.int .i64 (t.at_ : Nat))).setCell ⟨w.heap.size + 1, 2, none⟩ (.slice pa ps.length pc)).setCell ⟨w.heap.size + 1, 3, none⟩ (.int .i64 (kk : Nat))).setCell ⟨w.heap.size + 1, 4, none⟩ (.slice la ll lc)) :=
            (((((((Keeps.refl (fun b => b = fb ∨ b = w.heap.size + 1) w7).setCell (S := fun b => b = fb ∨ b = w.heap.size + 1) (p := ⟨fb, 4, none⟩) (Or.inl (Or.inl rfl)) _).setCell (S := fun b => b = fb ∨ b = w.heap.size + 1) (p := ⟨w.heap.size + 1, 0, none⟩) (Or.inl (Or.inr rfl)) _).setCell (S := fun b => b = fb ∨ b = w.heap.size + 1) (p := ⟨w.heap.size + 1, 1, none⟩) (Or.inl (Or.inr rfl)) _).setCell (S := fun b => b = fb ∨ b = w.heap.size + 1) (p := ⟨w.heap.size + 1, 2, none⟩) (Or.inl (Or.inr rfl)) _).setCell (S := fun b => b = fb ∨ b = w.heap.size + 1) (p := ⟨w.heap.size + 1, 3, none⟩) (Or.inl (Or.inr rfl)) _).setCell (S := fun b => b = fb ∨ b = w.heap.size + 1) (p := ⟨w.heap.size + 1, 4, none⟩) (Or.inl (Or.inr rfl)) _)
          have hL := HLO.out
          have hm : ∀ b, fb < b → w.heap.size ≤ b := fun b e => by omega
          have hn : ∀ b, fb < b → ¬ (b = fb ∨ b = w.heap.size + 1) := fun b e e2 => by omega
          refine bodyPost_ret (v := .agg #[.string (mkT t.text), .int .i64 (t.at_ : Nat), .slice pa ps.length pc, .int .i64 (kk : Nat), .slice la ll lc]) (by simp [results, Tryz.results61, go_sem, r0, r1, r2, r3, r4]) rfl ⟨_, HEV.out, _, rfl, ⟨[.string (mkT t.text), .int .i64 (t.at_ : Nat), .slice pa ps.length pc, .int .i64 (kk : Nat), .slice la ll lc], rfl, _, _, rfl, PaRow.mono (fun b _ e => hm b e) (HP7.out.keeps hks hn), StsF.mono hm (HL7.out.keeps hks hn)⟩, HR7.out.keeps hks (fun b e => by omega), HK7.out.trans' hks (fun i hi e => by omega)⟩
end Go.Proofs.YtgonbmcojjcabaaGreatDoor

namespace Go.Proofs.YtgonbmcojjcabaaGreatDoor
open Go.RowKit Lx Tr
variable {w w' : World} {rb n d dd : Nat} {tv : Value} {E : Env}

def GlV (_ _ : World) (g : Gl) (v : Value) : Prop := v = .agg #[.string (mkT g.name), .int .i64 (g.at_ : Nat)]
def globalV (E : Env) (n : Nat) : Res Gl := (takeKind E 1 (n + 1)).bind fun t m => .ok ⟨t.text, t.at_⟩ m

set_option maxRecDepth 100000 in
set_option maxHeartbeats 6400000 in
theorem global_any (w : World) (h : RdAt w rb tv E n d) (ht : (pk E n).text = tVar) : Calls Tryz.prog 60 #[.pointer (some ⟨rb, 0, none⟩)] w fun e w' => Says GlV w w' rb tv E d (globalV E n) e := by
  have hb0 : Below w.heap.size w (w.alloc (.cells #[.string ⟨#[]⟩, .int .i64 0] 64)) := ((Keeps.refl (fun _ => False) w).alloc _).below (Nat.le_refl _) (fun _ _ e => e.elim)
  have rv0 : Blk (w.alloc (.cells #[.string ⟨#[]⟩, .int .i64 0] 64)) w.heap.size [.string ⟨#[]⟩, .int .i64 0] := Blk.new' w [.string ⟨#[]⟩, .int .i64 0] _ rfl
  have htk := take_tok ⟨#[118, 97, 114]⟩ (by decide) _ (h.fresh hb0)
  have e1 : (⟨#[118, 97, 114]⟩ : ByteArray).data.toList = tVar := rfl
  have hv : take E tVar n = .ok (pk E n) (n + 1) := by unfold take; rw [if_pos ht]
  rw [e1, hv] at htk
  have HT := Lib.hid htk
  have HLT := Lib.hid h.lt
  have HB0 := Lib.hid hb0
  have HRV0 := Lib.hid rv0
  clear h htk e1 hv hb0 rv0 ht
  go_enter Tryz.func60, Tryz.ntmps60
  go_wp2_with fail
  refine HT.out.mono ?_
  rintro e w1 ⟨v1, rfl, _, hr1, hk1⟩
  have HRV1 := Lib.hid (HRV0.out.keeps hk1 (fun e => by have := HLT.out; have : w.heap.size = rb := e; omega))
  have HK1 : Hid (Keeps (fun b => b = rb) w w1) := Lib.hid ((Keeps.of_new HB0.out).trans hk1)
  have HTK := Lib.hid (takeKind_tok 1 (by decide) w1 hr1)
  clear hr1 hk1
  go_wp2_with fail
  cases ht : takeKind E 1 (n + 1) with
  | out => exact absurd ht (takeKind_ne E _ _)
  | bad k a =>
    rw [ht] at HTK
    refine HTK.out.mono ?_
    rintro e w2 hth
    have hth2 := Threw.own hth HLT.out HK1.out
    obtain ⟨b, rfl⟩ := threw_panic hth
    exact ⟨rfl, by rw [show globalV E n = .bad k a by unfold globalV; rw [ht]; rfl]; exact hth2⟩
  | ok t m =>
    rw [ht] at HTK
    unfold Says TokIs tokV at HTK
    simp only at HTK
    refine HTK.out.mono ?_
    rintro e w2 ⟨v2, rfl, rfl, hr2, hk2⟩
    have hrv2 := HRV1.out.keeps hk2 (fun e => by have := HLT.out; have : w.heap.size = rb := e; omega)
    have r0 := hrv2.at_ 0 _ rfl
    have r1 := hrv2.at_ 1 _ rfl
    have y0 := hrv2.free 0
    have y1 := hrv2.free 1
    have hlt2 := hrv2.lt
    have HR2 := Lib.hid hr2
    have HK2 := Lib.hid (HK1.out.trans hk2)
    have HG : Hid (globalV E n = .ok ⟨t.text, t.at_⟩ m) := Lib.hid (by unfold globalV; rw [ht]; rfl)
    clear hrv2 hr2 hk2 ht
    go_wp2_with fail
    have hks : Keeps (fun b => b = w.heap.size) w2 (((w2.setCell ⟨w.heap.size, 0, none⟩ (.string (mkT t.text))).setCell ⟨w.heap.size, 1, none⟩ (.int .i64 (t.at_ : Nat))).alloc (.cells #[.int .i64 (t.kind : Nat), .string (mkT t.text), .int .i64 (t.at_ : Nat)] 100)) := (own2 (w := w2)).alloc _
    have hsz := HK2.out.size
    have hl0 := HLT.out
    refine bodyPost_ret (v := .agg #[.string (mkT t.text), .int .i64 (t.at_ : Nat)]) (by simp [results, Tryz.results60, go_sem, r0, r1, hlt2]) rfl (by rw [HG.out]; exact ⟨_, rfl, rfl, HR2.out.keeps hks (fun b e => by omega), HK2.out.trans' hks (fun i hi e => by omega)⟩)

def glCells : List Gl → List Value
  | [] => []
  | p :: ps => [.string (mkT p.name), .int .i64 (p.at_ : Nat)] ++ glCells ps
theorem glCells_snoc : ∀ (l : List Gl) (p : Gl), glCells (l ++ [p]) = glCells l ++ [.string (mkT p.name), .int .i64 (p.at_ : Nat)]
  | [], _ => rfl
  | q :: l, p => by show _ ++ glCells (l ++ [p]) = _; rw [glCells_snoc l p]; rfl
theorem glCells_at : ∀ (l : List Gl) (i : Nat) (p : Gl), l[i]? = some p → (glCells l)[i * 2]? = some (.string (mkT p.name)) ∧ (glCells l)[i * 2 + 1]? = some (.int .i64 (p.at_ : Nat))
  | [], _, _, h => by cases h
  | q :: l, 0, p, h => by cases h; exact ⟨rfl, rfl⟩
  | q :: l, i + 1, p, h => by
    obtain ⟨h1, h2⟩ := glCells_at l i p h
    rw [show (i + 1) * 2 = i * 2 + 2 by omega]
    exact ⟨h1, h2⟩
theorem info_global : (Tryz.prog.info? 64).map (fun i => (i.zero, i.size, i.bytes)) = some (some (.agg #[.string ByteArray.empty, .int .i64 0]), 2, 24) := by kernel_rfl
theorem info_func : (Tryz.prog.info? 45).map (fun i => (i.zero, i.size, i.bytes)) = some (some (.agg #[.string ByteArray.empty, .int .i64 0, .slice none 0 0, .int .i64 0, .slice none 0 0]), 5, 80) := by kernel_rfl

/-- Globals, functions in memory. -/
def GlRow (w : World) (F : Nat → Prop) (v : Value) (l : List Gl) : Prop :=
  (v = .slice none 0 0 ∧ l = []) ∨ ∃ g cap, v = .slice (some ⟨g, 0, none⟩) l.length cap ∧ l.length ≤ cap ∧ cap ≤ maxLen ∧ F g ∧ 0 < l.length ∧ ∀ i p, l[i]? = some p → w.cell? ⟨g, i * 2, none⟩ = some (.string (mkT p.name)) ∧ w.cell? ⟨g, i * 2 + 1, none⟩ = some (.int .i64 (p.at_ : Nat))
def FuAt (w : World) (F : Nat → Prop) (g o : Nat) (f : Fu) : Prop := ∃ pv bv, w.cell? ⟨g, o, none⟩ = some (.string (mkT f.name)) ∧ w.cell? ⟨g, o + 1, none⟩ = some (.int .i64 (f.at_ : Nat)) ∧ w.cell? ⟨g, o + 2, none⟩ = some pv ∧ w.cell? ⟨g, o + 3, none⟩ = some (.int .i64 (f.kind : Nat)) ∧ w.cell? ⟨g, o + 4, none⟩ = some bv ∧ PaRow w F pv f.params ∧ StsF w F f.body bv
def FuRow (w : World) (F : Nat → Prop) (v : Value) (l : List Fu) : Prop :=
  (v = .slice none 0 0 ∧ l = []) ∨ ∃ g cap, v = .slice (some ⟨g, 0, none⟩) l.length cap ∧ l.length ≤ cap ∧ cap ≤ maxLen ∧ F g ∧ 0 < l.length ∧ ∀ i p, l[i]? = some p → FuAt w F g (i * 5) p

theorem FuC.len {F : Nat → Prop} {vs : List Value} {g : Fu} (h : FuC w F vs g) : vs.length = 5 := by
  obtain ⟨pv, bv, e, _⟩ := h; rw [e]; rfl
theorem FuC.keeps {F S : Nat → Prop} {vs : List Value} {g : Fu} (h : FuC w F vs g) (hk : Keeps S w w') (hF : ∀ b, F b → ¬ S b) : FuC w' F vs g := by
  obtain ⟨pv, bv, e, h1, h2⟩ := h
  exact ⟨pv, bv, e, h1.keeps hk hF, h2.keeps hk hF⟩
theorem FuC.mono {F G : Nat → Prop} (hF : ∀ b, b < w.heap.size → F b → G b) {vs : List Value} {g : Fu} (h : FuC w F vs g) : FuC w G vs g := by
  obtain ⟨pv, bv, e, h1, h2⟩ := h
  exact ⟨pv, bv, e, h1.mono hF, h2.1.monoB hF (fun g n cap e hl => (h2.2 g n cap e).lt hl), fun g n cap e => StsIn.monoB hF g 0 _ (h2.2 g n cap e)⟩
/-- Cells of a row that mean functions. -/
def RowF (W : World) (F : Nat → Prop) : List Value → List Fu → Prop
  | cs, [] => cs = []
  | cs, s :: ss => ∃ vs rest, cs = vs ++ rest ∧ FuC W F vs s ∧ RowF W F rest ss
theorem RowF.keeps {F S : Nat → Prop} (hk : Keeps S w w') (hF : ∀ b, F b → ¬ S b) : ∀ (l : List Fu) (cs : List Value), RowF w F cs l → RowF w' F cs l
  | [], _, h => h
  | s :: ss, cs, h => by
    obtain ⟨vs, rest, e, h1, h2⟩ := h
    exact ⟨vs, rest, e, h1.keeps hk hF, RowF.keeps hk hF ss rest h2⟩
theorem RowF.mono {F G : Nat → Prop} (hF : ∀ b, b < w.heap.size → F b → G b) : ∀ (l : List Fu) (cs : List Value), RowF w F cs l → RowF w G cs l
  | [], _, h => h
  | s :: ss, cs, h => by
    obtain ⟨vs, rest, e, h1, h2⟩ := h
    exact ⟨vs, rest, e, h1.mono hF, RowF.mono hF ss rest h2⟩
theorem RowF.snoc {F : Nat → Prop} {vs : List Value} {s : Fu} (hs : FuC w F vs s) : ∀ (l : List Fu) (cs : List Value), RowF w F cs l → RowF w F (cs ++ vs) (l ++ [s])
  | [], cs, h => by
    have : cs = [] := h
    subst this
    exact ⟨vs, [], by simp, hs, rfl⟩
  | s :: ss, cs, h => by
    obtain ⟨us, rest, e, h1, h2⟩ := h
    exact ⟨us, rest ++ vs, by rw [e, List.append_assoc], h1, RowF.snoc hs ss rest h2⟩
theorem RowF.lies {F : Nat → Prop} {g : Nat} : ∀ (l : List Fu) (cs : List Value) (i : Nat), (∀ j v, cs[j]? = some v → w.cell? ⟨g, i * 5 + j, none⟩ = some v) → RowF w F cs l → ∀ j p, l[j]? = some p → FuAt w F g ((i + j) * 5) p
  | [], _, _, _, _, _, _, h => by cases h
  | s :: ss, cs, i, hc, h, j, p, hj => by
    obtain ⟨us, rest, e, h1, h2⟩ := h
    have hl := h1.len
    cases j with
    | zero =>
      cases hj
      obtain ⟨pv, bv, e2, h3, h4⟩ := h1
      subst e2
      subst e
      exact ⟨pv, bv, hc 0 _ rfl, hc 1 _ rfl, hc 2 _ rfl, hc 3 _ rfl, hc 4 _ rfl, h3, h4⟩
    | succ j =>
      have h4 := RowF.lies ss rest (i + 1) (fun j v hj => by
        have h4 := hc (us.length + j) v (by rw [e, List.getElem?_append_right (by omega)]; simpa using hj)
        rw [hl] at h4
        rw [show (i + 1) * 5 + j = i * 5 + (5 + j) by omega]
        exact h4) h2 j p hj
      rw [show i + (j + 1) = i + 1 + j by omega]
      exact h4
end Go.Proofs.YtgonbmcojjcabaaGreatDoor

namespace Go.Proofs.YtgonbmcojjcabaaGreatDoor
open Go.RowKit Lx Tr
variable {w w' : World} {rb n d dd : Nat} {tv : Value} {E : Env}

theorem program_eq (f : Nat) (src : Src) (n : Nat) : Tr.program E (f + 1) src n =
    if E.toks.length ≤ n then .ok src n
    else if (pk E n).text = tVar then (if 8 ≤ src.globals.length then fail E 4 n else (takeKind E 1 (n + 1)).bind fun t m => (takeKind E 5 m).bind fun _ m2 => Tr.program E f ⟨src.globals ++ [⟨t.text, t.at_⟩], src.funcs⟩ m2)
    else if (pk E n).text = tFunc then (if 12 ≤ src.funcs.length then fail E 4 n else (Tr.function E f n).bind fun g m => (takeKind E 5 m).bind fun _ m2 => Tr.program E f ⟨src.globals, src.funcs ++ [g]⟩ m2)
    else fail E 3 n := by rw [Tr.program]

structure ProgJ (w wl : World) (rb : Nat) (tv : Value) (E : Env) (sb : Nat) (G : Res Src → Prop) (wr : World) (m : Nat) (src : Src) : Prop where
  rd : RdAt wr rb tv E m 0
  env : TEnv rb E wr
  kp : Keeps (fun b => b = rb) w wr
  kl : Keeps (fun b => b = rb ∨ b = sb) wl wr
  row : ∃ gv fv fvals, Blk wr sb [gv, fv] ∧ wr.ownsRow wl.heap.size 64 2 gv src.globals.length (glCells src.globals) ∧ wr.ownsRow wl.heap.size 45 5 fv src.funcs.length fvals ∧
    RowF wr (fun b => wl.heap.size ≤ b ∧ some b ≠ gv.ownBlock ∧ some b ≠ fv.ownBlock) fvals src.funcs ∧ (src.globals = [] → gv = .slice none 0 0) ∧ (src.funcs = [] → fv = .slice none 0 0) ∧ ∀ b, gv.ownBlock = some b → fv.ownBlock ≠ some b
  lo : rb < w.heap.size ∧ w.heap.size ≤ sb ∧ sb < wl.heap.size ∧ wl.heap.size ≤ wr.heap.size
  ev : ∀ r, Ev (fun f => Tr.program E f src m) r → G r

theorem ProgJ.on {wl wr w2 : World} {sb m m2 : Nat} {G G2 : Res Src → Prop} {src : Src} (h : ProgJ w wl rb tv E sb G wr m src) (hk : Keeps (fun b => b = rb) wr w2) (hr : RdAt w2 rb tv E m2 0) (hev : ∀ r, Ev (fun f => Tr.program E f src m2) r → G2 r) : ProgJ w wl rb tv E sb G2 w2 m2 src := by
  obtain ⟨gv, fv, fvals, h1, h2, h3, h4, h5, h6, h7⟩ := h.row
  have hlo := h.lo
  refine ⟨hr, h.env.own hk, h.kp.trans hk, h.kl.trans (hk.mono (fun _ _ e => Or.inl e)), ⟨gv, fv, fvals, h1.keeps hk (fun e => by have : sb = rb := e; omega), hk.row h2 (fun b e e2 => by have := (own_ge h2 b e).1; have : b = rb := e2; omega), hk.row h3 (fun b e e2 => by have := (own_ge h3 b e).1; have : b = rb := e2; omega), RowF.keeps hk (fun b e e2 => by have := e.1; have : b = rb := e2; omega) _ _ h4, h5, h6, h7⟩, ⟨hlo.1, hlo.2.1, hlo.2.2.1, Nat.le_trans hlo.2.2.2 hk.size⟩, hev⟩

theorem ProgJ.nextG {wl wr w2 w5 : World} {sb m m1 cap5 : Nat} {ao5 : Option Addr} {G G2 : Res Src → Prop} {src : Src} {gv fv : Value} {fvals : List Value} {o : Obj} (g : Gl) (h : ProgJ w wl rb tv E sb G wr m src) (hb : Blk wr sb [gv, fv]) (hg : wr.ownsRow wl.heap.size 64 2 gv src.globals.length (glCells src.globals)) (hf : wr.ownsRow wl.heap.size 45 5 fv src.funcs.length fvals)
    (hR : RowF wr (fun b => wl.heap.size ≤ b ∧ some b ≠ gv.ownBlock ∧ some b ≠ fv.ownBlock) fvals src.funcs) (_h5 : src.globals = [] → gv = .slice none 0 0) (h6 : src.funcs = [] → fv = .slice none 0 0) (h7 : ∀ b, gv.ownBlock = some b → fv.ownBlock ≠ some b)
    (hk : Keeps (fun b => b = rb) wr w2) (hr : RdAt w2 rb tv E m1 0) (hgr : (w2.alloc o).grownBy w5 gv.ownBlock) (HO : w5.ownsRow wl.heap.size 64 2 (.slice ao5 (src.globals.length + 1) cap5) (src.globals.length + 1) (glCells src.globals ++ [.string (mkT g.name), .int .i64 (g.at_ : Nat)]))
    (hnew : (Value.slice ao5 (src.globals.length + 1) cap5).ownBlock = gv.ownBlock ∨ (Value.slice ao5 (src.globals.length + 1) cap5).ownBlock = some (w2.heap.size + 1)) (hev : ∀ r, Ev (fun f => Tr.program E f ⟨src.globals ++ [g], src.funcs⟩ m1) r → G2 r) : ProgJ w wl rb tv E sb G2 (w5.setCell ⟨sb, 0, none⟩ (.slice ao5 (src.globals.length + 1) cap5)) m1 ⟨src.globals ++ [g], src.funcs⟩ := by
  have hlo := h.lo
  have hw2 := hk.size
  have hk5 : Keeps (fun b => gv.ownBlock = some b) w2 w5 := ((Keeps.refl (fun b => gv.ownBlock = some b) w2).alloc o).trans' (Keeps.of_grownBy hgr (fun k _ e => e)) (fun _ _ e => e)
  have hks : Keeps (fun b => b = sb) w5 (w5.setCell ⟨sb, 0, none⟩ (.slice ao5 (src.globals.length + 1) cap5)) := own1
  have hgg := own_ge hg
  have hff := own_ge hf
  have hge : ∀ b, gv.ownBlock = some b → wl.heap.size ≤ b ∧ b < wr.heap.size := hgg
  have hoe : ∀ b, fv.ownBlock = some b → wl.heap.size ≤ b ∧ b < wr.heap.size := hff
  have hdis : ∀ b, fv.ownBlock = some b → ¬ gv.ownBlock = some b := fun b e e2 => h7 b e2 e
  have hb5 : Blk w5 sb [gv, fv] := (hb.keeps hk (fun e => by have : sb = rb := e; omega)).keeps hk5 (fun e => by have := (hge sb e).1; omega)
  have hgn : ∀ b, (Value.slice ao5 (src.globals.length + 1) cap5).ownBlock = some b → wl.heap.size ≤ b := fun b e => by
    rcases hnew with h3 | h3
    · exact (hge b (h3 ▸ e)).1
    · rw [h3] at e; have := Option.some.inj e; omega
  have hnd : ∀ b, (Value.slice ao5 (src.globals.length + 1) cap5).ownBlock = some b → fv.ownBlock ≠ some b := fun b e e2 => by
    rcases hnew with h3 | h3
    · exact hdis b e2 (h3 ▸ e)
    · rw [h3] at e; have := Option.some.inj e; have := (hoe b e2).2; omega
  have hs5 := hk5.size
  have hss := hks.size
  have hother : (w5.setCell ⟨sb, 0, none⟩ (.slice ao5 (src.globals.length + 1) cap5)).ownsRow wl.heap.size 45 5 fv src.funcs.length fvals :=
    hks.row (hk5.row (hk.row hf (fun b e e2 => by have := (hoe b e).1; have : b = rb := e2; omega)) (fun b e => hdis b e)) (fun b e e2 => by have := (hoe b e).1; have : b = sb := e2; omega)
  have hrow2 : RowF w2 (fun b => wl.heap.size ≤ b ∧ some b ≠ gv.ownBlock ∧ some b ≠ fv.ownBlock ∧ some b ≠ (Value.slice ao5 (src.globals.length + 1) cap5).ownBlock) fvals src.funcs := RowF.mono (fun b hb e => by
    refine ⟨e.1, e.2.1, e.2.2, fun h2 => ?_⟩
    rcases hnew with h3 | h3
    · exact e.2.1 (by rw [← h3]; exact h2)
    · rw [h3] at h2; have := Option.some.inj h2; omega) _ _ (RowF.keeps hk (fun b e e2 => by have := e.1; have : b = rb := e2; omega) _ _ hR)
  have hrow5 : RowF (w5.setCell ⟨sb, 0, none⟩ (.slice ao5 (src.globals.length + 1) cap5)) (fun b => wl.heap.size ≤ b ∧ some b ≠ (Value.slice ao5 (src.globals.length + 1) cap5).ownBlock ∧ some b ≠ fv.ownBlock) fvals src.funcs := RowF.mono (fun b _ e => ⟨e.1, e.2.2.2, e.2.2.1⟩) _ _ (RowF.keeps hks (fun b e e2 => by have := e.1; have : b = sb := e2; omega) _ _ (RowF.keeps hk5 (fun b e e2 => e.2.1 e2.symm) _ _ hrow2))
  refine ⟨(hr.keeps hk5 (fun b e => by have := (hge b e).1; omega)).keeps hks (fun b e => by have : b = sb := e; omega), ((h.env.own hk).keeps hk5 (fun b e => by have := (hge b e).1; omega)).keeps hks (fun b e => by have : b = sb := e; omega), ((h.kp.trans hk).trans' hk5 (fun i hi e => by have := (hge i e).1; omega)).trans' hks (fun i hi e => by have : i = sb := e; omega), ((h.kl.trans (hk.mono (fun _ _ e => Or.inl e))).trans' hk5 (fun i hi e => by have := (hge i e).1; omega)).trans (hks.mono (fun _ _ e => Or.inr e)), ⟨_, fv, fvals, hb5.set 0 (.slice ao5 (src.globals.length + 1) cap5) (by simp), ?_, hother, hrow5, fun e => absurd e (by simp), h6, fun b e => hnd b e⟩, ⟨hlo.1, hlo.2.1, hlo.2.2.1, by omega⟩, hev⟩
  have h9 := hks.row HO (fun b e e2 => by have := hgn b e; have : b = sb := e2; omega)
  rw [show (⟨src.globals ++ [g], src.funcs⟩ : Src).globals.length = src.globals.length + 1 by simp, show glCells (⟨src.globals ++ [g], src.funcs⟩ : Src).globals = _ from glCells_snoc src.globals g]
  exact h9

theorem ProgJ.nextF {wl wr w2 w5 : World} {sb m m1 cap5 : Nat} {ao5 : Option Addr} {G G2 : Res Src → Prop} {src : Src} {gv fv : Value} {fvals : List Value} {vs : List Value} {o : Obj} (g : Fu) (h : ProgJ w wl rb tv E sb G wr m src) (hb : Blk wr sb [gv, fv]) (hg : wr.ownsRow wl.heap.size 64 2 gv src.globals.length (glCells src.globals)) (hf : wr.ownsRow wl.heap.size 45 5 fv src.funcs.length fvals)
    (hR : RowF wr (fun b => wl.heap.size ≤ b ∧ some b ≠ gv.ownBlock ∧ some b ≠ fv.ownBlock) fvals src.funcs) (h5 : src.globals = [] → gv = .slice none 0 0) (_h6 : src.funcs = [] → fv = .slice none 0 0) (h7 : ∀ b, gv.ownBlock = some b → fv.ownBlock ≠ some b)
    (hk : Keeps (fun b => b = rb) wr w2) (hr : RdAt w2 rb tv E m1 0) (hs : FuC w2 (fun b => wr.heap.size ≤ b) vs g) (hgr : (w2.alloc o).grownBy w5 fv.ownBlock) (HO : w5.ownsRow wl.heap.size 45 5 (.slice ao5 (src.funcs.length + 1) cap5) (src.funcs.length + 1) (fvals ++ vs))
    (hnew : (Value.slice ao5 (src.funcs.length + 1) cap5).ownBlock = fv.ownBlock ∨ (Value.slice ao5 (src.funcs.length + 1) cap5).ownBlock = some (w2.heap.size + 1)) (hev : ∀ r, Ev (fun f => Tr.program E f ⟨src.globals, src.funcs ++ [g]⟩ m1) r → G2 r) : ProgJ w wl rb tv E sb G2 (w5.setCell ⟨sb, 1, none⟩ (.slice ao5 (src.funcs.length + 1) cap5)) m1 ⟨src.globals, src.funcs ++ [g]⟩ := by
  have hlo := h.lo
  have hw2 := hk.size
  have hk5 : Keeps (fun b => fv.ownBlock = some b) w2 w5 := ((Keeps.refl (fun b => fv.ownBlock = some b) w2).alloc o).trans' (Keeps.of_grownBy hgr (fun k _ e => e)) (fun _ _ e => e)
  have hks : Keeps (fun b => b = sb) w5 (w5.setCell ⟨sb, 1, none⟩ (.slice ao5 (src.funcs.length + 1) cap5)) := own1
  have hgg := own_ge hg
  have hff := own_ge hf
  have hge : ∀ b, fv.ownBlock = some b → wl.heap.size ≤ b ∧ b < wr.heap.size := hff
  have hoe : ∀ b, gv.ownBlock = some b → wl.heap.size ≤ b ∧ b < wr.heap.size := hgg
  have hdis : ∀ b, gv.ownBlock = some b → ¬ fv.ownBlock = some b := fun b e e2 => h7 b e e2
  have hb5 : Blk w5 sb [gv, fv] := (hb.keeps hk (fun e => by have : sb = rb := e; omega)).keeps hk5 (fun e => by have := (hge sb e).1; omega)
  have hgn : ∀ b, (Value.slice ao5 (src.funcs.length + 1) cap5).ownBlock = some b → wl.heap.size ≤ b := fun b e => by
    rcases hnew with h3 | h3
    · exact (hge b (h3 ▸ e)).1
    · rw [h3] at e; have := Option.some.inj e; omega
  have hnd : ∀ b, (Value.slice ao5 (src.funcs.length + 1) cap5).ownBlock = some b → gv.ownBlock ≠ some b := fun b e e2 => by
    rcases hnew with h3 | h3
    · exact hdis b e2 (h3 ▸ e)
    · rw [h3] at e; have := Option.some.inj e; have := (hoe b e2).2; omega
  have hs5 := hk5.size
  have hss := hks.size
  have hother : (w5.setCell ⟨sb, 1, none⟩ (.slice ao5 (src.funcs.length + 1) cap5)).ownsRow wl.heap.size 64 2 gv src.globals.length (glCells src.globals) :=
    hks.row (hk5.row (hk.row hg (fun b e e2 => by have := (hoe b e).1; have : b = rb := e2; omega)) (fun b e => hdis b e)) (fun b e e2 => by have := (hoe b e).1; have : b = sb := e2; omega)
  have hrow2 : RowF w2 (fun b => wl.heap.size ≤ b ∧ some b ≠ gv.ownBlock ∧ some b ≠ fv.ownBlock ∧ some b ≠ (Value.slice ao5 (src.funcs.length + 1) cap5).ownBlock) fvals src.funcs := RowF.mono (fun b hb e => by
    refine ⟨e.1, e.2.1, e.2.2, fun h2 => ?_⟩
    rcases hnew with h3 | h3
    · exact e.2.2 (by rw [← h3]; exact h2)
    · rw [h3] at h2; have := Option.some.inj h2; omega) _ _ (RowF.keeps hk (fun b e e2 => by have := e.1; have : b = rb := e2; omega) _ _ hR)
  have hrow5 : RowF (w5.setCell ⟨sb, 1, none⟩ (.slice ao5 (src.funcs.length + 1) cap5)) (fun b => wl.heap.size ≤ b ∧ some b ≠ gv.ownBlock ∧ some b ≠ (Value.slice ao5 (src.funcs.length + 1) cap5).ownBlock) fvals src.funcs := RowF.mono (fun b _ e => ⟨e.1, e.2.1, e.2.2.2⟩) _ _ (RowF.keeps hks (fun b e e2 => by have := e.1; have : b = sb := e2; omega) _ _ (RowF.keeps hk5 (fun b e e2 => e.2.2.1 e2.symm) _ _ hrow2))
  have hs2 : FuC w2 (fun b => wl.heap.size ≤ b ∧ some b ≠ gv.ownBlock ∧ some b ≠ fv.ownBlock ∧ some b ≠ (Value.slice ao5 (src.funcs.length + 1) cap5).ownBlock) vs g := FuC.mono (fun b hb e => by
    have h1 : wr.heap.size ≤ b := e
    refine ⟨by omega, fun h2 => by have := (hgg b h2.symm).2; omega, fun h2 => by have := (hff b h2.symm).2; omega, fun h2 => ?_⟩
    rcases hnew with h3 | h3
    · have := (hff b (by rw [← h3]; exact h2.symm)).2; omega
    · rw [h3] at h2; have := Option.some.inj h2; omega) hs
  have hs5' : FuC (w5.setCell ⟨sb, 1, none⟩ (.slice ao5 (src.funcs.length + 1) cap5)) (fun b => wl.heap.size ≤ b ∧ some b ≠ gv.ownBlock ∧ some b ≠ (Value.slice ao5 (src.funcs.length + 1) cap5).ownBlock) vs g := FuC.mono (fun b _ e => ⟨e.1, e.2.1, e.2.2.2⟩) ((hs2.keeps hk5 (fun b e e2 => e.2.2.1 e2.symm)).keeps hks (fun b e e2 => by have := e.1; have : b = sb := e2; omega))
  refine ⟨(hr.keeps hk5 (fun b e => by have := (hge b e).1; omega)).keeps hks (fun b e => by have : b = sb := e; omega), ((h.env.own hk).keeps hk5 (fun b e => by have := (hge b e).1; omega)).keeps hks (fun b e => by have : b = sb := e; omega), ((h.kp.trans hk).trans' hk5 (fun i hi e => by have := (hge i e).1; omega)).trans' hks (fun i hi e => by have : i = sb := e; omega), ((h.kl.trans (hk.mono (fun _ _ e => Or.inl e))).trans' hk5 (fun i hi e => by have := (hge i e).1; omega)).trans (hks.mono (fun _ _ e => Or.inr e)), ⟨gv, _, fvals ++ vs, hb5.set 1 (.slice ao5 (src.funcs.length + 1) cap5) (by simp), hother, ?_, RowF.snoc hs5' _ _ hrow5, h5, fun e => absurd e (by simp), fun b e e2 => hnd b e2 e⟩, ⟨hlo.1, hlo.2.1, hlo.2.2.1, by omega⟩, hev⟩
  have h9 := hks.row HO (fun b e e2 => by have := hgn b e; have : b = sb := e2; omega)
  rw [show (⟨src.globals, src.funcs ++ [g]⟩ : Src).funcs.length = src.funcs.length + 1 by simp]
  exact h9

/-- A program in memory. -/
def SrcF (w : World) (F : Nat → Prop) (src : Src) (gv fv : Value) : Prop := GlRow w F gv src.globals ∧ FuRow w F fv src.funcs
/-- .. whose rows are of somebody's own: more can be put behind them. -/
def SrcO (w : World) (B : Nat) (src : Src) (gv fv : Value) : Prop := ∃ fvals, w.ownsRow B 64 2 gv src.globals.length (glCells src.globals) ∧ w.ownsRow B 45 5 fv src.funcs.length fvals ∧
  RowF w (fun b => B ≤ b ∧ some b ≠ gv.ownBlock ∧ some b ≠ fv.ownBlock) fvals src.funcs ∧ (src.globals = [] → gv = .slice none 0 0) ∧ (src.funcs = [] → fv = .slice none 0 0) ∧ ∀ b, gv.ownBlock = some b → fv.ownBlock ≠ some b
theorem SrcO.toF {B : Nat} {src : Src} {gv fv : Value} (h : SrcO w B src gv fv) : SrcF w (fun b => B ≤ b) src gv fv := by
  obtain ⟨fvals, h2, h3, h4, h5, h6, h7⟩ := h
  refine ⟨?_, ?_⟩
  · by_cases hz : src.globals = []
    · exact Or.inl ⟨h5 hz, hz⟩
    · have hpos : 0 < src.globals.length := List.length_pos_iff.2 hz
      rcases h2.2 with ⟨_, e⟩ | ⟨g, cap, cur, e1, e2, _, e3, e4, _⟩
      · omega
      · refine Or.inr ⟨g, cap, e1, e3, e4, e2, hpos, fun i p hi => ?_⟩
        obtain ⟨a1, a2⟩ := glCells_at src.globals i p hi
        have hin := (List.getElem?_eq_some_iff.1 hi).1
        subst e1
        rw [World.ownsRow.cellAt h2 (i * 2) (by omega), World.ownsRow.cellAt h2 (i * 2 + 1) (by omega)]
        exact ⟨a1, a2⟩
  · by_cases hz : src.funcs = []
    · exact Or.inl ⟨h6 hz, hz⟩
    · have hpos : 0 < src.funcs.length := List.length_pos_iff.2 hz
      rcases h3.2 with ⟨_, e⟩ | ⟨g, cap, cur, e1, e2, _, e3, e4, _⟩
      · omega
      · refine Or.inr ⟨g, cap, e1, e3, e4, e2, hpos, fun i p hi => ?_⟩
        subst e1
        have h8 := RowF.lies src.funcs fvals 0 (g := g) (fun j v hj => by
          rw [show 0 * 5 + j = j by omega, World.ownsRow.cellAt h3 j (by have := (List.getElem?_eq_some_iff.1 hj).1; have := h3.1; omega)]
          exact hj) (RowF.mono (fun b _ hb => hb.1) _ _ h4) i p hi
        rw [Nat.zero_add] at h8
        exact h8
theorem SrcO.keeps {B : Nat} {S : Nat → Prop} {src : Src} {gv fv : Value} (h : SrcO w B src gv fv) (hk : Keeps S w w') (hF : ∀ b, B ≤ b → ¬ S b) : SrcO w' B src gv fv := by
  obtain ⟨fvals, h2, h3, h4, h5, h6, h7⟩ := h
  exact ⟨fvals, hk.row h2 (fun b e e2 => hF b (own_ge h2 b e).1 e2), hk.row h3 (fun b e e2 => hF b (own_ge h3 b e).1 e2), RowF.keeps hk (fun b e => hF b e.1) _ _ h4, h5, h6, h7⟩
theorem SrcO.mono {B C : Nat} (hB : C ≤ B) {src : Src} {gv fv : Value} (h : SrcO w B src gv fv) : SrcO w C src gv fv := by
  obtain ⟨fvals, h2, h3, h4, h5, h6, h7⟩ := h
  have up : ∀ {e : TypeId} {size : Nat} {v : Value} {k : Nat} {xs : List Value}, w.ownsRow B e size v k xs → w.ownsRow C e size v k xs := fun h => by
    refine ⟨h.1, ?_⟩
    rcases h.2 with h | ⟨g, cap, cur, a1, a2, a3⟩
    · exact Or.inl h
    · exact Or.inr ⟨g, cap, cur, a1, Nat.le_trans hB a2, a3⟩
  exact ⟨fvals, up h2, up h3, RowF.mono (fun b _ e => ⟨Nat.le_trans hB e.1, e.2⟩) _ _ h4, h5, h6, h7⟩
theorem SrcO.form {B : Nat} {src : Src} {gv fv : Value} (h : SrcO w B src gv fv) : (∃ a l c, gv = .slice a l c) ∧ ∃ a l c, fv = .slice a l c := by
  obtain ⟨fvals, h2, h3, _⟩ := h
  refine ⟨?_, ?_⟩
  · rcases h2.2 with ⟨h, _⟩ | ⟨g, cap, cur, h1, _⟩
    · exact ⟨_, _, _, h⟩
    · exact ⟨_, _, _, h1⟩
  · rcases h3.2 with ⟨h, _⟩ | ⟨g, cap, cur, h1, _⟩
    · exact ⟨_, _, _, h⟩
    · exact ⟨_, _, _, h1⟩
theorem ProgJ.src {wl wr : World} {sb m : Nat} {G : Res Src → Prop} {src : Src} (h : ProgJ w wl rb tv E sb G wr m src) : ∃ gv fv, Blk wr sb [gv, fv] ∧ SrcO wr wl.heap.size src gv fv := by
  obtain ⟨gv, fv, fvals, h1, h2⟩ := h.row
  exact ⟨gv, fv, h1, fvals, h2⟩
end Go.Proofs.YtgonbmcojjcabaaGreatDoor

namespace Go.Proofs.YtgonbmcojjcabaaGreatDoor
open Go.RowKit Lx Tr
variable {w w' : World} {rb n d dd : Nat} {tv : Value} {E : Env}

def SrcV (w w' : World) (src : Src) (v : Value) : Prop := ∃ gv fv, v = .agg #[gv, fv] ∧ SrcO w' w.heap.size src gv fv
theorem SrcF.keeps {F S : Nat → Prop} {src : Src} {gv fv : Value} (h : SrcF w F src gv fv) (hk : Keeps S w w') (hF : ∀ b, F b → ¬ S b) : SrcF w' F src gv fv := by
  refine ⟨?_, ?_⟩
  · rcases h.1 with h | ⟨g, cap, h1, h2, h3, h4, h5, h6⟩
    · exact Or.inl h
    · exact Or.inr ⟨g, cap, h1, h2, h3, h4, h5, fun i p hi => ⟨hk.cell_of (h6 i p hi).1 (hF g h4), hk.cell_of (h6 i p hi).2 (hF g h4)⟩⟩
  · rcases h.2 with h | ⟨g, cap, h1, h2, h3, h4, h5, h6⟩
    · exact Or.inl h
    · refine Or.inr ⟨g, cap, h1, h2, h3, h4, h5, fun i p hi => ?_⟩
      obtain ⟨pv, bv, a0, a1, a2, a3, a4, a5, a6⟩ := h6 i p hi
      have hn := hF g h4
      exact ⟨pv, bv, hk.cell_of a0 hn, hk.cell_of a1 hn, hk.cell_of a2 hn, hk.cell_of a3 hn, hk.cell_of a4 hn, a5.keeps hk hF, a6.keeps hk hF⟩
theorem SrcF.mono {F G : Nat → Prop} (hF : ∀ b, F b → G b) {src : Src} {gv fv : Value} (h : SrcF w F src gv fv) : SrcF w G src gv fv := by
  refine ⟨?_, ?_⟩
  · rcases h.1 with h | ⟨g, cap, h1, h2, h3, h4, h5, h6⟩
    · exact Or.inl h
    · exact Or.inr ⟨g, cap, h1, h2, h3, hF g h4, h5, h6⟩
  · rcases h.2 with h | ⟨g, cap, h1, h2, h3, h4, h5, h6⟩
    · exact Or.inl h
    · refine Or.inr ⟨g, cap, h1, h2, h3, hF g h4, h5, fun i p hi => ?_⟩
      obtain ⟨pv, bv, a0, a1, a2, a3, a4, a5, a6⟩ := h6 i p hi
      exact ⟨pv, bv, a0, a1, a2, a3, a4, PaRow.mono (fun b _ h => hF b h) a5, StsF.mono hF a6⟩
theorem SrcF.form {F : Nat → Prop} {src : Src} {gv fv : Value} (h : SrcF w F src gv fv) : (∃ a l c, gv = .slice a l c) ∧ ∃ a l c, fv = .slice a l c := by
  refine ⟨?_, ?_⟩
  · rcases h.1 with ⟨h, _⟩ | ⟨g, cap, h1, _⟩
    · exact ⟨_, _, _, h⟩
    · exact ⟨_, _, _, h1⟩
  · rcases h.2 with ⟨h, _⟩ | ⟨g, cap, h1, _⟩
    · exact ⟨_, _, _, h⟩
    · exact ⟨_, _, _, h1⟩

theorem params_on : ∀ (f : Nat) (acc : List Pa) (n : Nat) (x : List Pa) (m : Nat), params E f acc n = .ok x m → n ≤ m
  | 0, _, _, _, _, h => by rw [params] at h; cases h
  | f + 1, acc, n, x, m, h => by
    rw [params_eq] at h
    obtain ⟨t, n1, h1, h⟩ := bind_ok h
    have a1 := takeKind_on h1
    by_cases q : kindV (pk E n1).text = 0
    · rw [if_pos q] at h; exact (fail_ok h).elim
    rw [if_neg q] at h
    by_cases q2 : (pk E (n1 + 1)).text = tComma
    · rw [if_pos q2] at h
      have := params_on f _ _ _ _ h
      omega
    · rw [if_neg q2] at h
      obtain ⟨_, n2, h2, h⟩ := bind_ok h
      have := take_on h2
      cases h; omega
theorem function_on {f n m : Nat} {g : Fu} (h : Tr.function E f n = .ok g m) : n < m := by
  unfold Tr.function at h
  obtain ⟨_, n1, h1, h⟩ := bind_ok h
  obtain ⟨_, n2, h2, h⟩ := bind_ok h
  obtain ⟨_, n3, h3, h⟩ := bind_ok h
  obtain ⟨_, n4, h4, h⟩ := bind_ok h
  obtain ⟨_, n5, h5, h⟩ := bind_ok h
  have a1 := take_on h1
  have a2 := takeKind_on h2
  have a3 := take_on h3
  have a5 := (sons f).block _ _ _ _ h5
  have a4 : n3 ≤ n4 := by
    by_cases q : (pk E n3).text = tRp
    · rw [if_pos q] at h4; cases h4; omega
    · rw [if_neg q] at h4; exact params_on f _ _ _ _ h4
  cases h
  split at a5 <;> omega
theorem ev_fun_on {n m : Nat} {g : Fu} (h : Ev (fun f => Tr.function E f n) (.ok g m)) : n < m := by
  obtain ⟨f, hf⟩ := h.get
  exact function_on hf
set_option maxRecDepth 100000 in
set_option maxHeartbeats 25600000 in
theorem program_any (w : World) (h : RdAt w rb tv E n 0) (hE : TEnv rb E w) : Calls Tryz.prog 32 #[.pointer (some ⟨rb, 0, none⟩)] w fun e w' => ∃ r, Ev (fun f => Tr.program E f ⟨[], []⟩ n) r ∧ Says SrcV w w' rb tv E 0 r e := by
  obtain ⟨wl, hwl⟩ : ∃ wl, wl = ((w.alloc (.cells #[.slice none 0 0, .slice none 0 0] 26)).alloc (.cells #[.slice none 0 0, .slice none 0 0] 26)) := ⟨_, rfl⟩
  have hbl : Below w.heap.size w wl := by rw [hwl]; exact ((Keeps.refl (fun _ => False) w).alloc _).alloc _ |>.below (Nat.le_refl _) (fun _ _ e => e.elim)
  have hrv : Blk wl w.heap.size [.slice none 0 0, .slice none 0 0] := by rw [hwl]; exact (Blk.new' w [.slice none 0 0, .slice none 0 0] _ rfl).keeps (S := fun _ => False) ((Keeps.refl _ _).alloc _) id
  have hsrc : Blk wl (w.heap.size + 1) [.slice none 0 0, .slice none 0 0] := by rw [hwl]; exact Blk.new' _ [.slice none 0 0, .slice none 0 0] _ (by simp)
  have hszl : wl.heap.size = w.heap.size + 2 := by rw [hwl]; simp
  have HI0 : Hid (ProgJ w wl rb tv E (w.heap.size + 1) (fun r => Ev (fun f => Tr.program E f ⟨[], []⟩ n) r) wl n ⟨[], []⟩) := Lib.hid ⟨h.fresh hbl, hE.fresh hbl, Keeps.of_new hbl, Keeps.refl _ _, ⟨_, _, [], hsrc, World.ownsRow_nil _ _ _ _, World.ownsRow_nil _ _ _ _, rfl, fun _ => rfl, fun _ => rfl, fun b e => by cases e⟩, ⟨h.lt, Nat.le_succ _, by omega, Nat.le_refl _⟩, fun _ h => h⟩
  have HRVL := Lib.hid hrv
  have HSZL := Lib.hid hszl
  have HLT := Lib.hid h.lt
  have e118 : (⟨#[118, 97, 114]⟩ : ByteArray).data.toList = tVar := rfl
  have e102 : (⟨#[102, 117, 110, 99]⟩ : ByteArray).data.toList = tFunc := rfl
  obtain ⟨iG, hiG, hzG0, hzG1, hzG2⟩ := tinfo info_global
  obtain ⟨iF, hiF, hzF0, hzF1, hzF2⟩ := tinfo info_func
  clear h hE hbl hrv hsrc hszl
  go_enter Tryz.func32, Tryz.ntmps32
  go_wp2_with fail
  rw [← hwl]
  clear hwl
  go_loopw [] (fun wr => ∃ m src, ProgJ w wl rb tv E (w.heap.size + 1) (fun r => Ev (fun f => Tr.program E f ⟨[], []⟩ n) r) wr m src) (fun wr => E.toks.length - posOf wr rb)
  case atStart => exact ⟨n, ⟨[], []⟩, HI0.out⟩
  case round =>
    obtain ⟨m, src, hj⟩ := hrel
    have HJ := Lib.hid hj
    have HEN := Lib.hid (ended_any wr hj.rd)
    clear hj
    by_cases hen : E.toks.length ≤ m
    · rw [decide_eq_true hen] at HEN
      have HN := Lib.hid hen
      clear hen
      go_wp2_with fail
      refine HEN.out.mono ?_
      rintro e w1 ⟨rfl, q, hq⟩
      have hb1 : Below wr.heap.size wr w1 := by rw [hq]; exact below_drewNs (Below.refl _ _) q
      have hj1 := HJ.out.on (G2 := (fun r => Ev (fun f => Tr.program E f ⟨[], []⟩ n) r)) (Keeps.of_new hb1) (HJ.out.rd.fresh hb1) HJ.out.ev
      obtain ⟨gv, fv, hb, hs⟩ := hj1.src
      obtain ⟨⟨ga, gl, gc, rfl⟩, fa, fl, fc, rfl⟩ := hs.form
      have hrv := HRVL.out.keeps hj1.kl (fun e => by have := HLT.out; omega)
      have c0 := hb.at_ 0 _ rfl
      have c1 := hb.at_ 1 _ rfl
      have r0 := hrv.at_ 0 _ rfl
      have r1 := hrv.at_ 1 _ rfl
      have y0 := hrv.free 0
      have y1 := hrv.free 1
      have HS1 := Lib.hid hs
      have HJ1 := Lib.hid hj1
      clear hq hb1 hj1 hb hs hrv
      go_wp2_with fail
      have hks : Keeps (fun b => b = w.heap.size) w1 ((w1.setCell ⟨w.heap.size, 0, none⟩ (.slice ga gl gc)).setCell ⟨w.heap.size, 1, none⟩ (.slice fa fl fc)) := own2
      have hlt0 := HLT.out
      have hlo := HJ1.out.lo
      refine bodyPost_ret (v := .agg #[.slice ga gl gc, .slice fa fl fc]) (by simp [results, Tryz.results32, go_sem, r0, r1]) rfl ⟨.ok src m, HJ.out.ev _ (Ev.now (fun e => by cases e) fun f => by rw [program_eq, if_pos HN.out]), _, rfl, ⟨_, _, rfl, SrcO.mono (by omega) (HS1.out.keeps hks (fun b e e2 => by omega))⟩, HJ1.out.rd.keeps hks (fun b e => by omega), HJ1.out.kp.trans' hks (fun i hi e => by omega)⟩
    · rw [decide_eq_false hen] at HEN
      have HN := Lib.hid hen
      clear hen
      go_wp2_with fail
      refine HEN.out.mono ?_
      rintro e w1 ⟨rfl, q, hq⟩
      have hb1 : Below wr.heap.size wr w1 := by rw [hq]; exact below_drewNs (Below.refl _ _) q
      have hj1 := HJ.out.on (G2 := (fun r => Ev (fun f => Tr.program E f ⟨[], []⟩ n) r)) (Keeps.of_new hb1) (HJ.out.rd.fresh hb1) HJ.out.ev
      have HJ1 := Lib.hid hj1
      have HIS := is_any ⟨#[118, 97, 114]⟩ w1 hj1.rd
      rw [e118] at HIS
      have HI := Lib.hid HIS
      clear hq hb1 hj1 HIS
      go_wp2_with fail
      by_cases hv : (pk E m).text = tVar
      · rw [decide_eq_true hv] at HI
        have HV := Lib.hid hv
        clear hv
        refine HI.out.mono ?_
        rintro e w2 ⟨rfl, hb2⟩
        have hj2 := HJ1.out.on (G2 := (fun r => Ev (fun f => Tr.program E f ⟨[], []⟩ n) r)) (Keeps.of_new hb2) (HJ1.out.rd.fresh hb2) HJ.out.ev
        have HJ2 := Lib.hid hj2
        clear hb2 hj2
        obtain ⟨gv, fv, fvals, hblk, hgo, hfo, hrf, h5, h6, h7⟩ := HJ2.out.row
        have hform : ∃ ao cap, gv = .slice ao src.globals.length cap := by
          rcases hgo.2 with ⟨e1, e2⟩ | ⟨g, cap, cur, e1, _⟩
          · exact ⟨none, 0, by rw [e1, e2]⟩
          · exact ⟨_, _, e1⟩
        obtain ⟨ao0, cap0, rfl⟩ := hform
        have c0 := hblk.at_ 0 _ rfl
        have HBLK := Lib.hid hblk
        have HGO := Lib.hid hgo
        have HFO := Lib.hid hfo
        have HRF := Lib.hid hrf
        have H5 := Lib.hid h5
        have H6 := Lib.hid h6
        have H7 := Lib.hid h7
        have HLO := Lib.hid HJ2.out.lo
        clear hblk hgo hfo hrf h5 h6 h7
        by_cases h8 : 8 ≤ src.globals.length
        · have HRM : Hid (Calls Tryz.prog 59 #[.pointer (some ⟨rb, 0, none⟩), .int .i64 (src.globals.length : Nat), .int .i64 8] w2 fun e w' => Threw w2 w' rb 4 (pk E m).at_ e) := Lib.hid ((hasRoom_tok src.globals.length 8 w2 HJ2.out.rd).mono fun e w' h => by rw [if_pos h8] at h; exact h)
          have H8 := Lib.hid h8
          clear h8
          go_wp2_with fail
          refine HRM.out.mono ?_
          rintro e w3 hth
          have hth2 := hth.own HLT.out HJ2.out.kp
          obtain ⟨b, rfl⟩ := threw_panic hth
          refine ⟨rfl, .bad 4 (pk E m).at_, HJ.out.ev _ (Ev.now (fun e => by cases e) fun f => ?_), hth2⟩
          rw [program_eq, if_neg HN.out, if_pos HV.out, if_pos H8.out]; rfl
        · have HRM : Hid (Calls Tryz.prog 59 #[.pointer (some ⟨rb, 0, none⟩), .int .i64 (src.globals.length : Nat), .int .i64 8] w2 fun e w' => e = .returned (.tuple #[]) ∧ w2 = w') := Lib.hid ((hasRoom_tok src.globals.length 8 w2 HJ2.out.rd).mono fun e w' h => by rw [if_neg h8] at h; exact h)
          have HSEQ : Hid (∀ r, Ev (fun f => (globalV E m).bind fun g m1 => (takeKind E 5 m1).bind fun _ m2 => Tr.program E f ⟨src.globals ++ [g], src.funcs⟩ m2) r → Ev (fun f => Tr.program E f ⟨[], []⟩ n) r) := Lib.hid fun r hr => HJ.out.ev _ (Ev.step (h := fun f => (globalV E m).bind fun g m1 => (takeKind E 5 m1).bind fun _ m2 => Tr.program E f ⟨src.globals ++ [g], src.funcs⟩ m2) (fun f => by
            rw [program_eq, if_neg HN.out, if_pos HV.out, if_neg h8]
            unfold globalV
            simp only [bind_assoc]
            rfl) hr)
          have hl8 : src.globals.length ≤ 12 := by omega
          have HML : Hid (src.globals.length + 1 ≤ maxLen) := Lib.hid (by unfold maxLen; omega)
          have HBY : Hid ((src.globals.length + 1) * 24 ≤ 140737488355328) := Lib.hid (by omega)
          clear h8 hl8
          go_wp2_with fail
          refine HRM.out.mono ?_
          rintro e w3 ⟨rfl, rfl⟩
          go_wp2_with fail
          change Code.wp _ _ _ _ _
          have c0d : w2.drew.cell? ⟨w.heap.size + 1, 0, none⟩ = some (.slice ao0 src.globals.length cap0) := c0
          have HRD := Lib.hid (HJ2.out.rd.fresh (Below.drew (Below.refl _ _)))
          have HCC := Lib.hid (global_any w2.drew HRD.out HV.out)
          refine wp_region_held_drew (S := fun _ => True) (by kernel_rfl) trivial (fun hHeld => ?_)
          refine wpAnyH_take (i := 0) (oi := { dst := some 17, op := _, type := _, pos := _, after := _, guard := _ }) (v := .pointer (some ⟨w.heap.size + 1, 0, none⟩)) rfl (by kernel_rfl) (by kernel_rfl) (by kernel_rfl) (fun _ _ _ h => h) (Or.inl ⟨by rfl, ?_⟩) hHeld ?_
          · intro W9 hSW
            (try dsimp only at hSW)
            go_simp
          try simp only [Act.put, List.setIfInBounds_toArray, List.set_cons_zero, List.set_cons_succ]
          refine wpAnyH_take (i := 2) (oi := { dst := some 19, op := _, type := _, pos := _, after := _, guard := _ }) (v := .pointer (some ⟨rb, 0, none⟩)) rfl (by kernel_rfl) (by kernel_rfl) (by kernel_rfl) (fun _ _ _ h => h) (Or.inl ⟨by rfl, ?_⟩) hHeld ?_
          · intro W9 hSW
            (try dsimp only at hSW)
            go_simp
          try simp only [Act.put, List.setIfInBounds_toArray, List.set_cons_zero, List.set_cons_succ]
          refine wpAnyH_ready (rs := [1, 3]) (by kernel_rfl) (by simp) ?_
          refine AllReadyH.cons (o := { dst := some 18, op := _, type := _, pos := _, after := _, guard := _ }) rfl (fun K hK => ?_) (AllReadyH.cons (o := { dst := some 20, op := _, type := _, pos := _, after := _, guard := _ }) rfl (fun K hK => ?_) AllReadyH.nil)
          · go_simp
            refine hK.out _ _ trivial (fun hHeld => ?_)
            clear hK K
            refine wpAnyH_ready (rs := [3]) (by kernel_rfl) (by simp) ?_
            refine AllReadyH.cons (o := { dst := some 20, op := _, type := _, pos := _, after := _, guard := _ }) rfl (fun K hK => ?_) AllReadyH.nil
            go_simp
            go_at_call 60
            refine HCC.out.mono ?_
            rintro e w4 hsay
            rcases hq : globalV E m with _ | ⟨k, a⟩ | ⟨g, m1⟩
            · rw [hq] at hsay; exact hsay.elim
            · rw [hq] at hsay
              have hsay' : Threw _ w4 rb k a e := hsay
              obtain ⟨b, rfl⟩ := threw_panic hsay'
              exact ⟨rfl, .bad k a, HSEQ.out _ (Ev.pure (fun e => by cases e) fun _ => by rw [hq]; rfl), hsay'.own HLT.out HJ2.out.kp.drew⟩
            rw [hq] at hsay
            have HEV : Hid (∀ r, Ev (fun f => (takeKind E 5 m1).bind fun _ m2 => Tr.program E f ⟨src.globals ++ [g], src.funcs⟩ m2) r → Ev (fun f => Tr.program E f ⟨[], []⟩ n) r) := Lib.hid fun r hr => HSEQ.out _ (by rw [hq]; exact hr)
            have HMM : Hid (m < m1) := Lib.hid (by
              unfold globalV at hq
              obtain ⟨_, k, h1, h2⟩ := bind_ok hq
              have := takeKind_on h1
              cases h2; omega)
            obtain ⟨v4, rfl, rfl, hr4, hk4⟩ := hsay
            have hkw : Keeps (fun b => b = rb) w2 w4 := ((Keeps.refl (fun b => b = rb) w2).drew).trans hk4
            have hb4 := HBLK.out.keeps hkw (fun e => by have := HLO.out; have : w.heap.size + 1 = rb := e; omega)
            have y4 := hb4.at_ 0 _ rfl
            have y5 := hb4.free 0
            have q4 : w.heap.size + 1 < w4.heap.size := hb4.lt
            have hown4 : w4.ownsRow wl.heap.size 64 2 (.slice ao0 src.globals.length cap0) src.globals.length (glCells src.globals) := hkw.row HGO.out (fun b e e2 => by have := (own_ge HGO.out b e).1; have := HLO.out; have : b = rb := e2; omega)
            have hszw : wl.heap.size ≤ w4.heap.size := Nat.le_trans HLO.out.2.2.2 hkw.size
            have HH1 : Hid (∀ x ∈ [Value.string (mkT g.name), Value.int .i64 (g.at_ : Nat)], x.oneCell' = true) := Lib.hid (fun (x : Value) hx => by simp at hx; rcases hx with rfl | rfl <;> rfl)
            have HCN := Lib.hid (cells_new w4 [.string (mkT g.name), .int .i64 (g.at_ : Nat)] 64)
            have HOW := Lib.hid hown4
            have HR4 := Lib.hid hr4
            have HK4 := Lib.hid hkw
            have HSZ := Lib.hid hszw
            clear hr4 hk4 hkw hown4 hszw hb4
            refine hK.out _ _ trivial (fun hHeld => ?_)
            clear hK K
            refine wpAnyH_ready (rs := [4]) (by kernel_rfl) (by simp) ?_
            refine AllReadyH.cons (o := { dst := some 21, op := _, type := _, pos := _, after := _, guard := _ }) rfl (fun K hK => ?_) AllReadyH.nil
            go_simp
            refine hK.out _ _ trivial (fun hHeld => ?_)
            clear hK K
            refine wpAnyH_ready (rs := [5]) (by kernel_rfl) (by simp) ?_
            refine AllReadyH.cons (o := { dst := some 22, op := _, type := _, pos := _, after := _, guard := _ }) rfl (fun K hK => ?_) AllReadyH.nil
            refine step_appendX rfl (.tmp 18) (.tmp 21) 23 64 rfl iG (.agg #[.string ByteArray.empty, .int .i64 0]) 2 24 Tryz.underlying23 hiG hzG0 hzG1 hzG2 rfl (by decide) wl.heap.size (.slice ao0 src.globals.length cap0) src.globals.length _ (World.ownsRow.alloc HOW.out _) HML.out HBY.out (by have := HSZ.out; simp; omega) ⟨w4.heap.size, 0, none⟩ _ rfl HCN.out HH1.out (by simp [Act.eval]) (by simp [Act.eval]) ?_
            intro ao' cap' w5 hown5 hgrow5 hnew
            have HNW : Hid ((Value.slice ao' (src.globals.length + 1) cap').ownBlock = (Value.slice ao0 src.globals.length cap0).ownBlock ∨ (Value.slice ao' (src.globals.length + 1) cap').ownBlock = some (w4.heap.size + 1)) := Lib.hid (by simpa using hnew)
            clear hnew
            have hk5 : Keeps (fun b => (Value.slice ao0 src.globals.length cap0).ownBlock = some b) w4 w5 := ((Keeps.refl (fun b => (Value.slice ao0 src.globals.length cap0).ownBlock = some b) w4).alloc _).trans' (Keeps.of_grownBy hgrow5 (fun k _ e => e)) (fun _ _ e => e)
            have hnb : ¬ (Value.slice ao0 src.globals.length cap0).ownBlock = some (w.heap.size + 1) := fun e => by have := (own_ge HOW.out _ e).1; have := HSZL.out; omega
            have y6 : w5.cell? ⟨w.heap.size + 1, 0, none⟩ = some (.slice ao0 src.globals.length cap0) := hk5.cell_of y4 hnb
            have y7 : w5.frozen? ⟨w.heap.size + 1, 0, none⟩ = false := by rw [hk5.frozen (p := ⟨w.heap.size + 1, 0, none⟩) q4 hnb]; exact y5
            have HO5 := Lib.hid hown5
            have HG5 := Lib.hid hgrow5
            clear hown5 hgrow5 hk5 hnb
            refine hK.out _ _ trivial (fun hHeld => ?_)
            clear hK K
            try simp only [Act.put, List.setIfInBounds_toArray, List.set_cons_zero, List.set_cons_succ]
            refine wpAnyH_take (i := 6) (oi := { dst := some 23, op := _, type := _, pos := _, after := _, guard := _ }) (v := .pointer (some ⟨w.heap.size + 1, 0, none⟩)) rfl (by kernel_rfl) (by kernel_rfl) (by kernel_rfl) (fun _ _ _ h => h) (Or.inl ⟨by rfl, ?_⟩) hHeld ?_
            · intro W9 hSW
              (try dsimp only at hSW)
              go_simp
            try simp only [Act.put, List.setIfInBounds_toArray, List.set_cons_zero, List.set_cons_succ]
            refine wpAnyH_ready (rs := [7]) (by kernel_rfl) (by simp) ?_
            refine AllReadyH.cons (o := { dst := none, op := _, type := _, pos := _, after := _, guard := _ }) rfl (fun K hK => ?_) AllReadyH.nil
            go_simp
            refine hK.out _ _ trivial (fun hHeld => ?_)
            clear hK K
            refine wpAnyH_done (by kernel_rfl) ?_ _
            have hj5 := HJ2.out.nextG (G2 := fun _ => True) (g := g) HBLK.out HGO.out HFO.out HRF.out H5.out H6.out H7.out HK4.out HR4.out HG5.out HO5.out HNW.out (fun _ _ => trivial)
            have HJ5 := Lib.hid hj5
            have HTK := Lib.hid (takeKind_tok 5 (by decide) _ hj5.rd)
            clear hj5 y4 y5 y6 y7 c0 c0d q4
            go_wp2_with fail
            cases ht : takeKind E 5 m1 with
            | out => exact absurd ht (takeKind_ne E _ _)
            | bad k a =>
              rw [ht] at HTK
              refine HTK.out.mono ?_
              rintro e w7 hth
              have hth2 := Threw.own hth HLT.out HJ5.out.kp
              obtain ⟨b, rfl⟩ := threw_panic hth
              exact ⟨rfl, .bad k a, HEV.out _ (Ev.pure (fun e => by cases e) fun _ => by rw [ht]; rfl), hth2⟩
            | ok t m2 =>
              rw [ht] at HTK
              refine HTK.out.mono ?_
              rintro e w7 ⟨v7, rfl, _, hr7, hk7⟩
              have hm2 := takeKind_on ht
              have hj7 := HJ5.out.on (G2 := (fun r => Ev (fun f => Tr.program E f ⟨[], []⟩ n) r)) hk7 hr7 (fun r hr => HEV.out r (by rw [ht]; exact hr))
              have HJ7 := Lib.hid hj7
              have HM2 := Lib.hid hm2
              clear hj7 hr7 hk7 ht hm2
              go_wp2_with fail
              refine ⟨⟨m2, _, HJ7.out⟩, ?_⟩
              have h1 := HJ7.out.rd
              have h2 := HJ.out.rd
              rw [h1.pos, h2.pos]
              have := h1.hn
              have := HMM.out
              have := HM2.out
              omega
          · go_simp
            go_at_call 60
            refine HCC.out.mono ?_
            rintro e w4 hsay
            rcases hq : globalV E m with _ | ⟨k, a⟩ | ⟨g, m1⟩
            · rw [hq] at hsay; exact hsay.elim
            · rw [hq] at hsay
              have hsay' : Threw _ w4 rb k a e := hsay
              obtain ⟨b, rfl⟩ := threw_panic hsay'
              exact ⟨rfl, .bad k a, HSEQ.out _ (Ev.pure (fun e => by cases e) fun _ => by rw [hq]; rfl), hsay'.own HLT.out HJ2.out.kp.drew⟩
            rw [hq] at hsay
            have HEV : Hid (∀ r, Ev (fun f => (takeKind E 5 m1).bind fun _ m2 => Tr.program E f ⟨src.globals ++ [g], src.funcs⟩ m2) r → Ev (fun f => Tr.program E f ⟨[], []⟩ n) r) := Lib.hid fun r hr => HSEQ.out _ (by rw [hq]; exact hr)
            have HMM : Hid (m < m1) := Lib.hid (by
              unfold globalV at hq
              obtain ⟨_, k, h1, h2⟩ := bind_ok hq
              have := takeKind_on h1
              cases h2; omega)
            obtain ⟨v4, rfl, rfl, hr4, hk4⟩ := hsay
            have hkw : Keeps (fun b => b = rb) w2 w4 := ((Keeps.refl (fun b => b = rb) w2).drew).trans hk4
            have hb4 := HBLK.out.keeps hkw (fun e => by have := HLO.out; have : w.heap.size + 1 = rb := e; omega)
            have y4 := hb4.at_ 0 _ rfl
            have y5 := hb4.free 0
            have q4 : w.heap.size + 1 < w4.heap.size := hb4.lt
            have hown4 : w4.ownsRow wl.heap.size 64 2 (.slice ao0 src.globals.length cap0) src.globals.length (glCells src.globals) := hkw.row HGO.out (fun b e e2 => by have := (own_ge HGO.out b e).1; have := HLO.out; have : b = rb := e2; omega)
            have hszw : wl.heap.size ≤ w4.heap.size := Nat.le_trans HLO.out.2.2.2 hkw.size
            have HH1 : Hid (∀ x ∈ [Value.string (mkT g.name), Value.int .i64 (g.at_ : Nat)], x.oneCell' = true) := Lib.hid (fun (x : Value) hx => by simp at hx; rcases hx with rfl | rfl <;> rfl)
            have HCN := Lib.hid (cells_new w4 [.string (mkT g.name), .int .i64 (g.at_ : Nat)] 64)
            have HOW := Lib.hid hown4
            have HR4 := Lib.hid hr4
            have HK4 := Lib.hid hkw
            have HSZ := Lib.hid hszw
            clear hr4 hk4 hkw hown4 hszw hb4
            refine hK.out _ _ trivial (fun hHeld => ?_)
            clear hK K
            refine wpAnyH_ready (rs := [1, 4]) (by kernel_rfl) (by simp) ?_
            refine AllReadyH.cons (o := { dst := some 18, op := _, type := _, pos := _, after := _, guard := _ }) rfl (fun K hK => ?_) (AllReadyH.cons (o := { dst := some 21, op := _, type := _, pos := _, after := _, guard := _ }) rfl (fun K hK => ?_) AllReadyH.nil)
            · go_simp
              refine hK.out _ _ trivial (fun hHeld => ?_)
              clear hK K
              refine wpAnyH_ready (rs := [4]) (by kernel_rfl) (by simp) ?_
              refine AllReadyH.cons (o := { dst := some 21, op := _, type := _, pos := _, after := _, guard := _ }) rfl (fun K hK => ?_) AllReadyH.nil
              go_simp
              refine hK.out _ _ trivial (fun hHeld => ?_)
              clear hK K
              refine wpAnyH_ready (rs := [5]) (by kernel_rfl) (by simp) ?_
              refine AllReadyH.cons (o := { dst := some 22, op := _, type := _, pos := _, after := _, guard := _ }) rfl (fun K hK => ?_) AllReadyH.nil
              refine step_appendX rfl (.tmp 18) (.tmp 21) 23 64 rfl iG (.agg #[.string ByteArray.empty, .int .i64 0]) 2 24 Tryz.underlying23 hiG hzG0 hzG1 hzG2 rfl (by decide) wl.heap.size (.slice ao0 src.globals.length cap0) src.globals.length _ (World.ownsRow.alloc HOW.out _) HML.out HBY.out (by have := HSZ.out; simp; omega) ⟨w4.heap.size, 0, none⟩ _ rfl HCN.out HH1.out (by simp [Act.eval]) (by simp [Act.eval]) ?_
              intro ao' cap' w5 hown5 hgrow5 hnew
              have HNW : Hid ((Value.slice ao' (src.globals.length + 1) cap').ownBlock = (Value.slice ao0 src.globals.length cap0).ownBlock ∨ (Value.slice ao' (src.globals.length + 1) cap').ownBlock = some (w4.heap.size + 1)) := Lib.hid (by simpa using hnew)
              clear hnew
              have hk5 : Keeps (fun b => (Value.slice ao0 src.globals.length cap0).ownBlock = some b) w4 w5 := ((Keeps.refl (fun b => (Value.slice ao0 src.globals.length cap0).ownBlock = some b) w4).alloc _).trans' (Keeps.of_grownBy hgrow5 (fun k _ e => e)) (fun _ _ e => e)
              have hnb : ¬ (Value.slice ao0 src.globals.length cap0).ownBlock = some (w.heap.size + 1) := fun e => by have := (own_ge HOW.out _ e).1; have := HSZL.out; omega
              have y6 : w5.cell? ⟨w.heap.size + 1, 0, none⟩ = some (.slice ao0 src.globals.length cap0) := hk5.cell_of y4 hnb
              have y7 : w5.frozen? ⟨w.heap.size + 1, 0, none⟩ = false := by rw [hk5.frozen (p := ⟨w.heap.size + 1, 0, none⟩) q4 hnb]; exact y5
              have HO5 := Lib.hid hown5
              have HG5 := Lib.hid hgrow5
              clear hown5 hgrow5 hk5 hnb
              refine hK.out _ _ trivial (fun hHeld => ?_)
              clear hK K
              try simp only [Act.put, List.setIfInBounds_toArray, List.set_cons_zero, List.set_cons_succ]
              refine wpAnyH_take (i := 6) (oi := { dst := some 23, op := _, type := _, pos := _, after := _, guard := _ }) (v := .pointer (some ⟨w.heap.size + 1, 0, none⟩)) rfl (by kernel_rfl) (by kernel_rfl) (by kernel_rfl) (fun _ _ _ h => h) (Or.inl ⟨by rfl, ?_⟩) hHeld ?_
              · intro W9 hSW
                (try dsimp only at hSW)
                go_simp
              try simp only [Act.put, List.setIfInBounds_toArray, List.set_cons_zero, List.set_cons_succ]
              refine wpAnyH_ready (rs := [7]) (by kernel_rfl) (by simp) ?_
              refine AllReadyH.cons (o := { dst := none, op := _, type := _, pos := _, after := _, guard := _ }) rfl (fun K hK => ?_) AllReadyH.nil
              go_simp
              refine hK.out _ _ trivial (fun hHeld => ?_)
              clear hK K
              refine wpAnyH_done (by kernel_rfl) ?_ _
              have hj5 := HJ2.out.nextG (G2 := fun _ => True) (g := g) HBLK.out HGO.out HFO.out HRF.out H5.out H6.out H7.out HK4.out HR4.out HG5.out HO5.out HNW.out (fun _ _ => trivial)
              have HJ5 := Lib.hid hj5
              have HTK := Lib.hid (takeKind_tok 5 (by decide) _ hj5.rd)
              clear hj5 y4 y5 y6 y7 c0 c0d q4
              go_wp2_with fail
              cases ht : takeKind E 5 m1 with
              | out => exact absurd ht (takeKind_ne E _ _)
              | bad k a =>
                rw [ht] at HTK
                refine HTK.out.mono ?_
                rintro e w7 hth
                have hth2 := Threw.own hth HLT.out HJ5.out.kp
                obtain ⟨b, rfl⟩ := threw_panic hth
                exact ⟨rfl, .bad k a, HEV.out _ (Ev.pure (fun e => by cases e) fun _ => by rw [ht]; rfl), hth2⟩
              | ok t m2 =>
                rw [ht] at HTK
                refine HTK.out.mono ?_
                rintro e w7 ⟨v7, rfl, _, hr7, hk7⟩
                have hm2 := takeKind_on ht
                have hj7 := HJ5.out.on (G2 := (fun r => Ev (fun f => Tr.program E f ⟨[], []⟩ n) r)) hk7 hr7 (fun r hr => HEV.out r (by rw [ht]; exact hr))
                have HJ7 := Lib.hid hj7
                have HM2 := Lib.hid hm2
                clear hj7 hr7 hk7 ht hm2
                go_wp2_with fail
                refine ⟨⟨m2, _, HJ7.out⟩, ?_⟩
                have h1 := HJ7.out.rd
                have h2 := HJ.out.rd
                rw [h1.pos, h2.pos]
                have := h1.hn
                have := HMM.out
                have := HM2.out
                omega
            · go_simp
              refine hK.out _ _ trivial (fun hHeld => ?_)
              clear hK K
              refine wpAnyH_ready (rs := [1]) (by kernel_rfl) (by simp) ?_
              refine AllReadyH.cons (o := { dst := some 18, op := _, type := _, pos := _, after := _, guard := _ }) rfl (fun K hK => ?_) AllReadyH.nil
              go_simp
              refine hK.out _ _ trivial (fun hHeld => ?_)
              clear hK K
              refine wpAnyH_ready (rs := [5]) (by kernel_rfl) (by simp) ?_
              refine AllReadyH.cons (o := { dst := some 22, op := _, type := _, pos := _, after := _, guard := _ }) rfl (fun K hK => ?_) AllReadyH.nil
              refine step_appendX rfl (.tmp 18) (.tmp 21) 23 64 rfl iG (.agg #[.string ByteArray.empty, .int .i64 0]) 2 24 Tryz.underlying23 hiG hzG0 hzG1 hzG2 rfl (by decide) wl.heap.size (.slice ao0 src.globals.length cap0) src.globals.length _ (World.ownsRow.alloc HOW.out _) HML.out HBY.out (by have := HSZ.out; simp; omega) ⟨w4.heap.size, 0, none⟩ _ rfl HCN.out HH1.out (by simp [Act.eval]) (by simp [Act.eval]) ?_
              intro ao' cap' w5 hown5 hgrow5 hnew
              have HNW : Hid ((Value.slice ao' (src.globals.length + 1) cap').ownBlock = (Value.slice ao0 src.globals.length cap0).ownBlock ∨ (Value.slice ao' (src.globals.length + 1) cap').ownBlock = some (w4.heap.size + 1)) := Lib.hid (by simpa using hnew)
              clear hnew
              have hk5 : Keeps (fun b => (Value.slice ao0 src.globals.length cap0).ownBlock = some b) w4 w5 := ((Keeps.refl (fun b => (Value.slice ao0 src.globals.length cap0).ownBlock = some b) w4).alloc _).trans' (Keeps.of_grownBy hgrow5 (fun k _ e => e)) (fun _ _ e => e)
              have hnb : ¬ (Value.slice ao0 src.globals.length cap0).ownBlock = some (w.heap.size + 1) := fun e => by have := (own_ge HOW.out _ e).1; have := HSZL.out; omega
              have y6 : w5.cell? ⟨w.heap.size + 1, 0, none⟩ = some (.slice ao0 src.globals.length cap0) := hk5.cell_of y4 hnb
              have y7 : w5.frozen? ⟨w.heap.size + 1, 0, none⟩ = false := by rw [hk5.frozen (p := ⟨w.heap.size + 1, 0, none⟩) q4 hnb]; exact y5
              have HO5 := Lib.hid hown5
              have HG5 := Lib.hid hgrow5
              clear hown5 hgrow5 hk5 hnb
              refine hK.out _ _ trivial (fun hHeld => ?_)
              clear hK K
              try simp only [Act.put, List.setIfInBounds_toArray, List.set_cons_zero, List.set_cons_succ]
              refine wpAnyH_take (i := 6) (oi := { dst := some 23, op := _, type := _, pos := _, after := _, guard := _ }) (v := .pointer (some ⟨w.heap.size + 1, 0, none⟩)) rfl (by kernel_rfl) (by kernel_rfl) (by kernel_rfl) (fun _ _ _ h => h) (Or.inl ⟨by rfl, ?_⟩) hHeld ?_
              · intro W9 hSW
                (try dsimp only at hSW)
                go_simp
              try simp only [Act.put, List.setIfInBounds_toArray, List.set_cons_zero, List.set_cons_succ]
              refine wpAnyH_ready (rs := [7]) (by kernel_rfl) (by simp) ?_
              refine AllReadyH.cons (o := { dst := none, op := _, type := _, pos := _, after := _, guard := _ }) rfl (fun K hK => ?_) AllReadyH.nil
              go_simp
              refine hK.out _ _ trivial (fun hHeld => ?_)
              clear hK K
              refine wpAnyH_done (by kernel_rfl) ?_ _
              have hj5 := HJ2.out.nextG (G2 := fun _ => True) (g := g) HBLK.out HGO.out HFO.out HRF.out H5.out H6.out H7.out HK4.out HR4.out HG5.out HO5.out HNW.out (fun _ _ => trivial)
              have HJ5 := Lib.hid hj5
              have HTK := Lib.hid (takeKind_tok 5 (by decide) _ hj5.rd)
              clear hj5 y4 y5 y6 y7 c0 c0d q4
              go_wp2_with fail
              cases ht : takeKind E 5 m1 with
              | out => exact absurd ht (takeKind_ne E _ _)
              | bad k a =>
                rw [ht] at HTK
                refine HTK.out.mono ?_
                rintro e w7 hth
                have hth2 := Threw.own hth HLT.out HJ5.out.kp
                obtain ⟨b, rfl⟩ := threw_panic hth
                exact ⟨rfl, .bad k a, HEV.out _ (Ev.pure (fun e => by cases e) fun _ => by rw [ht]; rfl), hth2⟩
              | ok t m2 =>
                rw [ht] at HTK
                refine HTK.out.mono ?_
                rintro e w7 ⟨v7, rfl, _, hr7, hk7⟩
                have hm2 := takeKind_on ht
                have hj7 := HJ5.out.on (G2 := (fun r => Ev (fun f => Tr.program E f ⟨[], []⟩ n) r)) hk7 hr7 (fun r hr => HEV.out r (by rw [ht]; exact hr))
                have HJ7 := Lib.hid hj7
                have HM2 := Lib.hid hm2
                clear hj7 hr7 hk7 ht hm2
                go_wp2_with fail
                refine ⟨⟨m2, _, HJ7.out⟩, ?_⟩
                have h1 := HJ7.out.rd
                have h2 := HJ.out.rd
                rw [h1.pos, h2.pos]
                have := h1.hn
                have := HMM.out
                have := HM2.out
                omega
      · rw [decide_eq_false hv] at HI
        have HV := Lib.hid hv
        clear hv
        refine HI.out.mono ?_
        rintro e w3 ⟨rfl, hb3⟩
        have hj3 := HJ1.out.on (G2 := (fun r => Ev (fun f => Tr.program E f ⟨[], []⟩ n) r)) (Keeps.of_new hb3) (HJ1.out.rd.fresh hb3) HJ.out.ev
        have HJ3 := Lib.hid hj3
        have HIS := is_any ⟨#[102, 117, 110, 99]⟩ w3 hj3.rd
        rw [e102] at HIS
        have HI2 := Lib.hid HIS
        clear hb3 hj3 HIS HI
        go_wp2_with fail
        by_cases hf : (pk E m).text = tFunc
        · rw [decide_eq_true hf] at HI2
          have HF := Lib.hid hf
          clear hf
          refine HI2.out.mono ?_
          rintro e w2 ⟨rfl, hb2⟩
          have hj2 := HJ3.out.on (G2 := (fun r => Ev (fun f => Tr.program E f ⟨[], []⟩ n) r)) (Keeps.of_new hb2) (HJ3.out.rd.fresh hb2) HJ.out.ev
          have HJ2 := Lib.hid hj2
          clear hb2 hj2
          obtain ⟨gv, fv, fvals, hblk, hgo, hfo, hrf, h5, h6, h7⟩ := HJ2.out.row
          have hform : ∃ ao cap, fv = .slice ao src.funcs.length cap := by
            rcases hfo.2 with ⟨e1, e2⟩ | ⟨g, cap, cur, e1, _⟩
            · exact ⟨none, 0, by rw [e1, e2]⟩
            · exact ⟨_, _, e1⟩
          obtain ⟨ao0, cap0, rfl⟩ := hform
          have c0 := hblk.at_ 1 _ rfl
          have HBLK := Lib.hid hblk
          have HGO := Lib.hid hgo
          have HFO := Lib.hid hfo
          have HRF := Lib.hid hrf
          have H5 := Lib.hid h5
          have H6 := Lib.hid h6
          have H7 := Lib.hid h7
          have HLO := Lib.hid HJ2.out.lo
          clear hblk hgo hfo hrf h5 h6 h7
          by_cases h8 : 12 ≤ src.funcs.length
          · have HRM : Hid (Calls Tryz.prog 59 #[.pointer (some ⟨rb, 0, none⟩), .int .i64 (src.funcs.length : Nat), .int .i64 12] w2 fun e w' => Threw w2 w' rb 4 (pk E m).at_ e) := Lib.hid ((hasRoom_tok src.funcs.length 12 w2 HJ2.out.rd).mono fun e w' h => by rw [if_pos h8] at h; exact h)
            have H8 := Lib.hid h8
            clear h8
            go_wp2_with fail
            refine HRM.out.mono ?_
            rintro e w3 hth
            have hth2 := hth.own HLT.out HJ2.out.kp
            obtain ⟨b, rfl⟩ := threw_panic hth
            refine ⟨rfl, .bad 4 (pk E m).at_, HJ.out.ev _ (Ev.now (fun e => by cases e) fun f => ?_), hth2⟩
            rw [program_eq, if_neg HN.out, if_neg HV.out, if_pos HF.out, if_pos H8.out]; rfl
          · have HRM : Hid (Calls Tryz.prog 59 #[.pointer (some ⟨rb, 0, none⟩), .int .i64 (src.funcs.length : Nat), .int .i64 12] w2 fun e w' => e = .returned (.tuple #[]) ∧ w2 = w') := Lib.hid ((hasRoom_tok src.funcs.length 12 w2 HJ2.out.rd).mono fun e w' h => by rw [if_neg h8] at h; exact h)
            have HSEQ : Hid (∀ r, Ev (fun f => (Tr.function E f m).bind fun g m1 => (takeKind E 5 m1).bind fun _ m2 => Tr.program E f ⟨src.globals, src.funcs ++ [g]⟩ m2) r → Ev (fun f => Tr.program E f ⟨[], []⟩ n) r) := Lib.hid fun r hr => HJ.out.ev _ (Ev.step (h := fun f => (Tr.function E f m).bind fun g m1 => (takeKind E 5 m1).bind fun _ m2 => Tr.program E f ⟨src.globals, src.funcs ++ [g]⟩ m2) (fun f => by
              rw [program_eq, if_neg HN.out, if_neg HV.out, if_pos HF.out, if_neg h8]) hr)
            have hl8 : src.funcs.length ≤ 12 := by omega
            have HML : Hid (src.funcs.length + 1 ≤ maxLen) := Lib.hid (by unfold maxLen; omega)
            have HBY : Hid ((src.funcs.length + 1) * 80 ≤ 140737488355328) := Lib.hid (by omega)
            clear h8 hl8
            go_wp2_with fail
            refine HRM.out.mono ?_
            rintro e w3 ⟨rfl, rfl⟩
            go_wp2_with fail
            change Code.wp _ _ _ _ _
            have c0d : w2.drew.cell? ⟨w.heap.size + 1, 1, none⟩ = some (.slice ao0 src.funcs.length cap0) := c0
            have HRD := Lib.hid (HJ2.out.rd.fresh (Below.drew (Below.refl _ _)))
            have HCC := Lib.hid (function_any w2.drew HRD.out (HJ2.out.env.fresh (Below.drew (Below.refl _ _))))
            refine wp_region_held_drew (S := fun _ => True) (by kernel_rfl) trivial (fun hHeld => ?_)
            refine wpAnyH_take (i := 0) (oi := { dst := some 32, op := _, type := _, pos := _, after := _, guard := _ }) (v := .pointer (some ⟨w.heap.size + 1, 1, none⟩)) rfl (by kernel_rfl) (by kernel_rfl) (by kernel_rfl) (fun _ _ _ h => h) (Or.inl ⟨by rfl, ?_⟩) hHeld ?_
            · intro W9 hSW
              (try dsimp only at hSW)
              go_simp
            try simp only [Act.put, List.setIfInBounds_toArray, List.set_cons_zero, List.set_cons_succ]
            refine wpAnyH_take (i := 2) (oi := { dst := some 34, op := _, type := _, pos := _, after := _, guard := _ }) (v := .pointer (some ⟨rb, 0, none⟩)) rfl (by kernel_rfl) (by kernel_rfl) (by kernel_rfl) (fun _ _ _ h => h) (Or.inl ⟨by rfl, ?_⟩) hHeld ?_
            · intro W9 hSW
              (try dsimp only at hSW)
              go_simp
            try simp only [Act.put, List.setIfInBounds_toArray, List.set_cons_zero, List.set_cons_succ]
            refine wpAnyH_ready (rs := [1, 3]) (by kernel_rfl) (by simp) ?_
            refine AllReadyH.cons (o := { dst := some 33, op := _, type := _, pos := _, after := _, guard := _ }) rfl (fun K hK => ?_) (AllReadyH.cons (o := { dst := some 35, op := _, type := _, pos := _, after := _, guard := _ }) rfl (fun K hK => ?_) AllReadyH.nil)
            · go_simp
              refine hK.out _ _ trivial (fun hHeld => ?_)
              clear hK K
              refine wpAnyH_ready (rs := [3]) (by kernel_rfl) (by simp) ?_
              refine AllReadyH.cons (o := { dst := some 35, op := _, type := _, pos := _, after := _, guard := _ }) rfl (fun K hK => ?_) AllReadyH.nil
              go_simp
              go_at_call 61
              refine HCC.out.mono ?_
              rintro e w4 ⟨r, hev, hsay⟩
              rcases r with _ | ⟨k, a⟩ | ⟨g, m1⟩
              · exact hsay.elim
              · have hsay' : Threw _ w4 rb k a e := hsay
                obtain ⟨b, rfl⟩ := threw_panic hsay'
                exact ⟨rfl, .bad k a, HSEQ.out _ (Ev.bad hev), hsay'.own HLT.out HJ2.out.kp.drew⟩
              have HEV : Hid (∀ r, Ev (fun f => (takeKind E 5 m1).bind fun _ m2 => Tr.program E f ⟨src.globals, src.funcs ++ [g]⟩ m2) r → Ev (fun f => Tr.program E f ⟨[], []⟩ n) r) := Lib.hid fun r hr => HSEQ.out _ (Ev.then hev hr)
              have HMM : Hid (m < m1) := Lib.hid (ev_fun_on hev)
              obtain ⟨v4, rfl, ⟨vs, rfl, hfc⟩, hr4, hk4⟩ := hsay
              have hfc' := hfc
              obtain ⟨pv, bv, e2, hpf, hbf⟩ := hfc'
              obtain ⟨pa, pc, rfl⟩ := hpf.form
              obtain ⟨la, ll, lc, rfl⟩ := hbf.1.form
              have HFC := Lib.hid hfc
              clear hfc hpf hbf hev
              unfold fu1 at e2
              have hkw : Keeps (fun b => b = rb) w2 w4 := ((Keeps.refl (fun b => b = rb) w2).drew).trans hk4
              have hb4 := HBLK.out.keeps hkw (fun e => by have := HLO.out; have : w.heap.size + 1 = rb := e; omega)
              have y4 := hb4.at_ 1 _ rfl
              have y5 := hb4.free 1
              have q4 : w.heap.size + 1 < w4.heap.size := hb4.lt
              have hown4 : w4.ownsRow wl.heap.size 45 5 (.slice ao0 src.funcs.length cap0) src.funcs.length fvals := hkw.row HFO.out (fun b e e2 => by have := (own_ge HFO.out b e).1; have := HLO.out; have : b = rb := e2; omega)
              have hszw : wl.heap.size ≤ w4.heap.size := Nat.le_trans HLO.out.2.2.2 hkw.size
              have HH1 : Hid (∀ x ∈ vs, x.oneCell' = true) := Lib.hid (fun (x : Value) hx => by rw [e2] at hx; simp at hx; rcases hx with rfl | rfl | rfl | rfl | rfl <;> rfl)
              have HCN := Lib.hid (cells_new w4 vs 45)
              have HOW := Lib.hid hown4
              have HR4 := Lib.hid hr4
              have HK4 := Lib.hid hkw
              have HSZ := Lib.hid hszw
              clear hr4 hk4 hkw hown4 hszw hb4
              subst e2
              refine hK.out _ _ trivial (fun hHeld => ?_)
              clear hK K
              refine wpAnyH_ready (rs := [4]) (by kernel_rfl) (by simp) ?_
              refine AllReadyH.cons (o := { dst := some 36, op := _, type := _, pos := _, after := _, guard := _ }) rfl (fun K hK => ?_) AllReadyH.nil
              go_simp
              refine hK.out _ _ trivial (fun hHeld => ?_)
              clear hK K
              refine wpAnyH_ready (rs := [5]) (by kernel_rfl) (by simp) ?_
              refine AllReadyH.cons (o := { dst := some 37, op := _, type := _, pos := _, after := _, guard := _ }) rfl (fun K hK => ?_) AllReadyH.nil
              refine step_appendX rfl (.tmp 33) (.tmp 36) 24 45 rfl iF (.agg #[.string ByteArray.empty, .int .i64 0, .slice none 0 0, .int .i64 0, .slice none 0 0]) 5 80 Tryz.underlying24 hiF hzF0 hzF1 hzF2 rfl (by decide) wl.heap.size (.slice ao0 src.funcs.length cap0) src.funcs.length _ (World.ownsRow.alloc HOW.out _) HML.out HBY.out (by have := HSZ.out; simp; omega) ⟨w4.heap.size, 0, none⟩ _ rfl HCN.out HH1.out (by simp [Act.eval]) (by simp [Act.eval]) ?_
              intro ao' cap' w5 hown5 hgrow5 hnew
              have HNW : Hid ((Value.slice ao' (src.funcs.length + 1) cap').ownBlock = (Value.slice ao0 src.funcs.length cap0).ownBlock ∨ (Value.slice ao' (src.funcs.length + 1) cap').ownBlock = some (w4.heap.size + 1)) := Lib.hid (by simpa using hnew)
              clear hnew
              have hk5 : Keeps (fun b => (Value.slice ao0 src.funcs.length cap0).ownBlock = some b) w4 w5 := ((Keeps.refl (fun b => (Value.slice ao0 src.funcs.length cap0).ownBlock = some b) w4).alloc _).trans' (Keeps.of_grownBy hgrow5 (fun k _ e => e)) (fun _ _ e => e)
              have hnb : ¬ (Value.slice ao0 src.funcs.length cap0).ownBlock = some (w.heap.size + 1) := fun e => by have := (own_ge HOW.out _ e).1; have := HSZL.out; omega
              have y6 : w5.cell? ⟨w.heap.size + 1, 1, none⟩ = some (.slice ao0 src.funcs.length cap0) := hk5.cell_of y4 hnb
              have y7 : w5.frozen? ⟨w.heap.size + 1, 1, none⟩ = false := by rw [hk5.frozen (p := ⟨w.heap.size + 1, 1, none⟩) q4 hnb]; exact y5
              have HO5 := Lib.hid hown5
              have HG5 := Lib.hid hgrow5
              clear hown5 hgrow5 hk5 hnb
              refine hK.out _ _ trivial (fun hHeld => ?_)
              clear hK K
              try simp only [Act.put, List.setIfInBounds_toArray, List.set_cons_zero, List.set_cons_succ]
              refine wpAnyH_take (i := 6) (oi := { dst := some 38, op := _, type := _, pos := _, after := _, guard := _ }) (v := .pointer (some ⟨w.heap.size + 1, 1, none⟩)) rfl (by kernel_rfl) (by kernel_rfl) (by kernel_rfl) (fun _ _ _ h => h) (Or.inl ⟨by rfl, ?_⟩) hHeld ?_
              · intro W9 hSW
                (try dsimp only at hSW)
                go_simp
              try simp only [Act.put, List.setIfInBounds_toArray, List.set_cons_zero, List.set_cons_succ]
              refine wpAnyH_ready (rs := [7]) (by kernel_rfl) (by simp) ?_
              refine AllReadyH.cons (o := { dst := none, op := _, type := _, pos := _, after := _, guard := _ }) rfl (fun K hK => ?_) AllReadyH.nil
              go_simp
              refine hK.out _ _ trivial (fun hHeld => ?_)
              clear hK K
              refine wpAnyH_done (by kernel_rfl) ?_ _
              have hj5 := HJ2.out.nextF (G2 := fun _ => True) (g := g) HBLK.out HGO.out HFO.out HRF.out H5.out H6.out H7.out HK4.out HR4.out HFC.out HG5.out HO5.out HNW.out (fun _ _ => trivial)
              have HJ5 := Lib.hid hj5
              have HTK := Lib.hid (takeKind_tok 5 (by decide) _ hj5.rd)
              clear hj5 y4 y5 y6 y7 c0 c0d q4
              go_wp2_with fail
              cases ht : takeKind E 5 m1 with
              | out => exact absurd ht (takeKind_ne E _ _)
              | bad k a =>
                rw [ht] at HTK
                refine HTK.out.mono ?_
                rintro e w7 hth
                have hth2 := Threw.own hth HLT.out HJ5.out.kp
                obtain ⟨b, rfl⟩ := threw_panic hth
                exact ⟨rfl, .bad k a, HEV.out _ (Ev.pure (fun e => by cases e) fun _ => by rw [ht]; rfl), hth2⟩
              | ok t m2 =>
                rw [ht] at HTK
                refine HTK.out.mono ?_
                rintro e w7 ⟨v7, rfl, _, hr7, hk7⟩
                have hm2 := takeKind_on ht
                have hj7 := HJ5.out.on (G2 := (fun r => Ev (fun f => Tr.program E f ⟨[], []⟩ n) r)) hk7 hr7 (fun r hr => HEV.out r (by rw [ht]; exact hr))
                have HJ7 := Lib.hid hj7
                have HM2 := Lib.hid hm2
                clear hj7 hr7 hk7 ht hm2
                go_wp2_with fail
                refine ⟨⟨m2, _, HJ7.out⟩, ?_⟩
                have h1 := HJ7.out.rd
                have h2 := HJ.out.rd
                rw [h1.pos, h2.pos]
                have := h1.hn
                have := HMM.out
                have := HM2.out
                omega
            · go_simp
              go_at_call 61
              refine HCC.out.mono ?_
              rintro e w4 ⟨r, hev, hsay⟩
              rcases r with _ | ⟨k, a⟩ | ⟨g, m1⟩
              · exact hsay.elim
              · have hsay' : Threw _ w4 rb k a e := hsay
                obtain ⟨b, rfl⟩ := threw_panic hsay'
                exact ⟨rfl, .bad k a, HSEQ.out _ (Ev.bad hev), hsay'.own HLT.out HJ2.out.kp.drew⟩
              have HEV : Hid (∀ r, Ev (fun f => (takeKind E 5 m1).bind fun _ m2 => Tr.program E f ⟨src.globals, src.funcs ++ [g]⟩ m2) r → Ev (fun f => Tr.program E f ⟨[], []⟩ n) r) := Lib.hid fun r hr => HSEQ.out _ (Ev.then hev hr)
              have HMM : Hid (m < m1) := Lib.hid (ev_fun_on hev)
              obtain ⟨v4, rfl, ⟨vs, rfl, hfc⟩, hr4, hk4⟩ := hsay
              have hfc' := hfc
              obtain ⟨pv, bv, e2, hpf, hbf⟩ := hfc'
              obtain ⟨pa, pc, rfl⟩ := hpf.form
              obtain ⟨la, ll, lc, rfl⟩ := hbf.1.form
              have HFC := Lib.hid hfc
              clear hfc hpf hbf hev
              unfold fu1 at e2
              have hkw : Keeps (fun b => b = rb) w2 w4 := ((Keeps.refl (fun b => b = rb) w2).drew).trans hk4
              have hb4 := HBLK.out.keeps hkw (fun e => by have := HLO.out; have : w.heap.size + 1 = rb := e; omega)
              have y4 := hb4.at_ 1 _ rfl
              have y5 := hb4.free 1
              have q4 : w.heap.size + 1 < w4.heap.size := hb4.lt
              have hown4 : w4.ownsRow wl.heap.size 45 5 (.slice ao0 src.funcs.length cap0) src.funcs.length fvals := hkw.row HFO.out (fun b e e2 => by have := (own_ge HFO.out b e).1; have := HLO.out; have : b = rb := e2; omega)
              have hszw : wl.heap.size ≤ w4.heap.size := Nat.le_trans HLO.out.2.2.2 hkw.size
              have HH1 : Hid (∀ x ∈ vs, x.oneCell' = true) := Lib.hid (fun (x : Value) hx => by rw [e2] at hx; simp at hx; rcases hx with rfl | rfl | rfl | rfl | rfl <;> rfl)
              have HCN := Lib.hid (cells_new w4 vs 45)
              have HOW := Lib.hid hown4
              have HR4 := Lib.hid hr4
              have HK4 := Lib.hid hkw
              have HSZ := Lib.hid hszw
              clear hr4 hk4 hkw hown4 hszw hb4
              subst e2
              refine hK.out _ _ trivial (fun hHeld => ?_)
              clear hK K
              refine wpAnyH_ready (rs := [1, 4]) (by kernel_rfl) (by simp) ?_
              refine AllReadyH.cons (o := { dst := some 33, op := _, type := _, pos := _, after := _, guard := _ }) rfl (fun K hK => ?_) (AllReadyH.cons (o := { dst := some 36, op := _, type := _, pos := _, after := _, guard := _ }) rfl (fun K hK => ?_) AllReadyH.nil)
              · go_simp
                refine hK.out _ _ trivial (fun hHeld => ?_)
                clear hK K
                refine wpAnyH_ready (rs := [4]) (by kernel_rfl) (by simp) ?_
                refine AllReadyH.cons (o := { dst := some 36, op := _, type := _, pos := _, after := _, guard := _ }) rfl (fun K hK => ?_) AllReadyH.nil
                go_simp
                refine hK.out _ _ trivial (fun hHeld => ?_)
                clear hK K
                refine wpAnyH_ready (rs := [5]) (by kernel_rfl) (by simp) ?_
                refine AllReadyH.cons (o := { dst := some 37, op := _, type := _, pos := _, after := _, guard := _ }) rfl (fun K hK => ?_) AllReadyH.nil
                refine step_appendX rfl (.tmp 33) (.tmp 36) 24 45 rfl iF (.agg #[.string ByteArray.empty, .int .i64 0, .slice none 0 0, .int .i64 0, .slice none 0 0]) 5 80 Tryz.underlying24 hiF hzF0 hzF1 hzF2 rfl (by decide) wl.heap.size (.slice ao0 src.funcs.length cap0) src.funcs.length _ (World.ownsRow.alloc HOW.out _) HML.out HBY.out (by have := HSZ.out; simp; omega) ⟨w4.heap.size, 0, none⟩ _ rfl HCN.out HH1.out (by simp [Act.eval]) (by simp [Act.eval]) ?_
                intro ao' cap' w5 hown5 hgrow5 hnew
                have HNW : Hid ((Value.slice ao' (src.funcs.length + 1) cap').ownBlock = (Value.slice ao0 src.funcs.length cap0).ownBlock ∨ (Value.slice ao' (src.funcs.length + 1) cap').ownBlock = some (w4.heap.size + 1)) := Lib.hid (by simpa using hnew)
                clear hnew
                have hk5 : Keeps (fun b => (Value.slice ao0 src.funcs.length cap0).ownBlock = some b) w4 w5 := ((Keeps.refl (fun b => (Value.slice ao0 src.funcs.length cap0).ownBlock = some b) w4).alloc _).trans' (Keeps.of_grownBy hgrow5 (fun k _ e => e)) (fun _ _ e => e)
                have hnb : ¬ (Value.slice ao0 src.funcs.length cap0).ownBlock = some (w.heap.size + 1) := fun e => by have := (own_ge HOW.out _ e).1; have := HSZL.out; omega
                have y6 : w5.cell? ⟨w.heap.size + 1, 1, none⟩ = some (.slice ao0 src.funcs.length cap0) := hk5.cell_of y4 hnb
                have y7 : w5.frozen? ⟨w.heap.size + 1, 1, none⟩ = false := by rw [hk5.frozen (p := ⟨w.heap.size + 1, 1, none⟩) q4 hnb]; exact y5
                have HO5 := Lib.hid hown5
                have HG5 := Lib.hid hgrow5
                clear hown5 hgrow5 hk5 hnb
                refine hK.out _ _ trivial (fun hHeld => ?_)
                clear hK K
                try simp only [Act.put, List.setIfInBounds_toArray, List.set_cons_zero, List.set_cons_succ]
                refine wpAnyH_take (i := 6) (oi := { dst := some 38, op := _, type := _, pos := _, after := _, guard := _ }) (v := .pointer (some ⟨w.heap.size + 1, 1, none⟩)) rfl (by kernel_rfl) (by kernel_rfl) (by kernel_rfl) (fun _ _ _ h => h) (Or.inl ⟨by rfl, ?_⟩) hHeld ?_
                · intro W9 hSW
                  (try dsimp only at hSW)
                  go_simp
                try simp only [Act.put, List.setIfInBounds_toArray, List.set_cons_zero, List.set_cons_succ]
                refine wpAnyH_ready (rs := [7]) (by kernel_rfl) (by simp) ?_
                refine AllReadyH.cons (o := { dst := none, op := _, type := _, pos := _, after := _, guard := _ }) rfl (fun K hK => ?_) AllReadyH.nil
                go_simp
                refine hK.out _ _ trivial (fun hHeld => ?_)
                clear hK K
                refine wpAnyH_done (by kernel_rfl) ?_ _
                have hj5 := HJ2.out.nextF (G2 := fun _ => True) (g := g) HBLK.out HGO.out HFO.out HRF.out H5.out H6.out H7.out HK4.out HR4.out HFC.out HG5.out HO5.out HNW.out (fun _ _ => trivial)
                have HJ5 := Lib.hid hj5
                have HTK := Lib.hid (takeKind_tok 5 (by decide) _ hj5.rd)
                clear hj5 y4 y5 y6 y7 c0 c0d q4
                go_wp2_with fail
                cases ht : takeKind E 5 m1 with
                | out => exact absurd ht (takeKind_ne E _ _)
                | bad k a =>
                  rw [ht] at HTK
                  refine HTK.out.mono ?_
                  rintro e w7 hth
                  have hth2 := Threw.own hth HLT.out HJ5.out.kp
                  obtain ⟨b, rfl⟩ := threw_panic hth
                  exact ⟨rfl, .bad k a, HEV.out _ (Ev.pure (fun e => by cases e) fun _ => by rw [ht]; rfl), hth2⟩
                | ok t m2 =>
                  rw [ht] at HTK
                  refine HTK.out.mono ?_
                  rintro e w7 ⟨v7, rfl, _, hr7, hk7⟩
                  have hm2 := takeKind_on ht
                  have hj7 := HJ5.out.on (G2 := (fun r => Ev (fun f => Tr.program E f ⟨[], []⟩ n) r)) hk7 hr7 (fun r hr => HEV.out r (by rw [ht]; exact hr))
                  have HJ7 := Lib.hid hj7
                  have HM2 := Lib.hid hm2
                  clear hj7 hr7 hk7 ht hm2
                  go_wp2_with fail
                  refine ⟨⟨m2, _, HJ7.out⟩, ?_⟩
                  have h1 := HJ7.out.rd
                  have h2 := HJ.out.rd
                  rw [h1.pos, h2.pos]
                  have := h1.hn
                  have := HMM.out
                  have := HM2.out
                  omega
              · go_simp
                refine hK.out _ _ trivial (fun hHeld => ?_)
                clear hK K
                refine wpAnyH_ready (rs := [1]) (by kernel_rfl) (by simp) ?_
                refine AllReadyH.cons (o := { dst := some 33, op := _, type := _, pos := _, after := _, guard := _ }) rfl (fun K hK => ?_) AllReadyH.nil
                go_simp
                refine hK.out _ _ trivial (fun hHeld => ?_)
                clear hK K
                refine wpAnyH_ready (rs := [5]) (by kernel_rfl) (by simp) ?_
                refine AllReadyH.cons (o := { dst := some 37, op := _, type := _, pos := _, after := _, guard := _ }) rfl (fun K hK => ?_) AllReadyH.nil
                refine step_appendX rfl (.tmp 33) (.tmp 36) 24 45 rfl iF (.agg #[.string ByteArray.empty, .int .i64 0, .slice none 0 0, .int .i64 0, .slice none 0 0]) 5 80 Tryz.underlying24 hiF hzF0 hzF1 hzF2 rfl (by decide) wl.heap.size (.slice ao0 src.funcs.length cap0) src.funcs.length _ (World.ownsRow.alloc HOW.out _) HML.out HBY.out (by have := HSZ.out; simp; omega) ⟨w4.heap.size, 0, none⟩ _ rfl HCN.out HH1.out (by simp [Act.eval]) (by simp [Act.eval]) ?_
                intro ao' cap' w5 hown5 hgrow5 hnew
                have HNW : Hid ((Value.slice ao' (src.funcs.length + 1) cap').ownBlock = (Value.slice ao0 src.funcs.length cap0).ownBlock ∨ (Value.slice ao' (src.funcs.length + 1) cap').ownBlock = some (w4.heap.size + 1)) := Lib.hid (by simpa using hnew)
                clear hnew
                have hk5 : Keeps (fun b => (Value.slice ao0 src.funcs.length cap0).ownBlock = some b) w4 w5 := ((Keeps.refl (fun b => (Value.slice ao0 src.funcs.length cap0).ownBlock = some b) w4).alloc _).trans' (Keeps.of_grownBy hgrow5 (fun k _ e => e)) (fun _ _ e => e)
                have hnb : ¬ (Value.slice ao0 src.funcs.length cap0).ownBlock = some (w.heap.size + 1) := fun e => by have := (own_ge HOW.out _ e).1; have := HSZL.out; omega
                have y6 : w5.cell? ⟨w.heap.size + 1, 1, none⟩ = some (.slice ao0 src.funcs.length cap0) := hk5.cell_of y4 hnb
                have y7 : w5.frozen? ⟨w.heap.size + 1, 1, none⟩ = false := by rw [hk5.frozen (p := ⟨w.heap.size + 1, 1, none⟩) q4 hnb]; exact y5
                have HO5 := Lib.hid hown5
                have HG5 := Lib.hid hgrow5
                clear hown5 hgrow5 hk5 hnb
                refine hK.out _ _ trivial (fun hHeld => ?_)
                clear hK K
                try simp only [Act.put, List.setIfInBounds_toArray, List.set_cons_zero, List.set_cons_succ]
                refine wpAnyH_take (i := 6) (oi := { dst := some 38, op := _, type := _, pos := _, after := _, guard := _ }) (v := .pointer (some ⟨w.heap.size + 1, 1, none⟩)) rfl (by kernel_rfl) (by kernel_rfl) (by kernel_rfl) (fun _ _ _ h => h) (Or.inl ⟨by rfl, ?_⟩) hHeld ?_
                · intro W9 hSW
                  (try dsimp only at hSW)
                  go_simp
                try simp only [Act.put, List.setIfInBounds_toArray, List.set_cons_zero, List.set_cons_succ]
                refine wpAnyH_ready (rs := [7]) (by kernel_rfl) (by simp) ?_
                refine AllReadyH.cons (o := { dst := none, op := _, type := _, pos := _, after := _, guard := _ }) rfl (fun K hK => ?_) AllReadyH.nil
                go_simp
                refine hK.out _ _ trivial (fun hHeld => ?_)
                clear hK K
                refine wpAnyH_done (by kernel_rfl) ?_ _
                have hj5 := HJ2.out.nextF (G2 := fun _ => True) (g := g) HBLK.out HGO.out HFO.out HRF.out H5.out H6.out H7.out HK4.out HR4.out HFC.out HG5.out HO5.out HNW.out (fun _ _ => trivial)
                have HJ5 := Lib.hid hj5
                have HTK := Lib.hid (takeKind_tok 5 (by decide) _ hj5.rd)
                clear hj5 y4 y5 y6 y7 c0 c0d q4
                go_wp2_with fail
                cases ht : takeKind E 5 m1 with
                | out => exact absurd ht (takeKind_ne E _ _)
                | bad k a =>
                  rw [ht] at HTK
                  refine HTK.out.mono ?_
                  rintro e w7 hth
                  have hth2 := Threw.own hth HLT.out HJ5.out.kp
                  obtain ⟨b, rfl⟩ := threw_panic hth
                  exact ⟨rfl, .bad k a, HEV.out _ (Ev.pure (fun e => by cases e) fun _ => by rw [ht]; rfl), hth2⟩
                | ok t m2 =>
                  rw [ht] at HTK
                  refine HTK.out.mono ?_
                  rintro e w7 ⟨v7, rfl, _, hr7, hk7⟩
                  have hm2 := takeKind_on ht
                  have hj7 := HJ5.out.on (G2 := (fun r => Ev (fun f => Tr.program E f ⟨[], []⟩ n) r)) hk7 hr7 (fun r hr => HEV.out r (by rw [ht]; exact hr))
                  have HJ7 := Lib.hid hj7
                  have HM2 := Lib.hid hm2
                  clear hj7 hr7 hk7 ht hm2
                  go_wp2_with fail
                  refine ⟨⟨m2, _, HJ7.out⟩, ?_⟩
                  have h1 := HJ7.out.rd
                  have h2 := HJ.out.rd
                  rw [h1.pos, h2.pos]
                  have := h1.hn
                  have := HMM.out
                  have := HM2.out
                  omega
        · rw [decide_eq_false hf] at HI2
          have HF := Lib.hid hf
          clear hf
          refine HI2.out.mono ?_
          rintro e w2 ⟨rfl, hb2⟩
          have hj2 := HJ3.out.on (G2 := (fun r => Ev (fun f => Tr.program E f ⟨[], []⟩ n) r)) (Keeps.of_new hb2) (HJ3.out.rd.fresh hb2) HJ.out.ev
          have HJ2 := Lib.hid hj2
          have HFA := Lib.hid (fail_any 3 w2 hj2.rd)
          clear hb2 hj2
          go_wp2_with fail
          refine HFA.out.mono ?_
          rintro e w4 hth
          have hth2 := hth.own HLT.out HJ2.out.kp
          obtain ⟨b, rfl⟩ := threw_panic hth
          refine ⟨rfl, .bad 3 (pk E m).at_, HJ.out.ev _ (Ev.now (fun e => by cases e) fun f => ?_), hth2⟩
          rw [program_eq, if_neg HN.out, if_neg HV.out, if_neg HF.out]; rfl
end Go.Proofs.YtgonbmcojjcabaaGreatDoor

namespace Go.Proofs.YtgonbmcojjcabaaGreatDoor
open Go.RowKit Lx Tr
variable {w w' : World} {rb n d dd : Nat} {tv : Value} {E : Env}

theorem thrown_isAt (p : Addr) (w : World) : (Instr.typeAssert (.iface 107 (.pointer (some p))) 20 107 true).run Tryz.prog w = .ok (.tuple #[.pointer (some p), .bool true]) w := by kernel_rfl
theorem thrown_some (p : Addr) (w : World) : (binOp BinOp.neq 20 (.iface 107 (.pointer (some p))) .nilIface).run Tryz.prog w = .ok (.bool true) w := by kernel_rfl
theorem thrown_none (w : World) : (binOp BinOp.neq 20 .nilIface .nilIface).run Tryz.prog w = .ok (.bool false) w := by kernel_rfl
set_option maxRecDepth 100000 in
set_option maxHeartbeats 3200000 in
theorem caught_at (b : Nat) (w : World) : Calls Tryz.prog 31 #[.iface 107 (.pointer (some ⟨b, 0, none⟩))] w fun e w' => e = .returned (.iface 107 (.pointer (some ⟨b, 0, none⟩))) ∧ w = w' := by
  have hta := thrown_isAt ⟨b, 0, none⟩
  go_enter Tryz.func31, Tryz.ntmps31
  go_wp2_with fail
  go_ret
  exact ⟨rfl, rfl⟩

set_option maxRecDepth 100000 in
set_option maxHeartbeats 3200000 in
theorem parseIdle (p q : Addr) (w : World) :
    CallsD Tryz.prog 30 #[.pointer (some p), .pointer (some q)] .returning w fun e u' w' => e = .returned (.tuple #[]) ∧ u' = .returning ∧ w' = w := by
  refine callsD_of_wpS Tryz.func30 rfl fun c₀ cs hu => ?_
  apply wpS_seq
  apply wpS_region
  simp [wpOpsS, go_sem, recoverD, hu, Tryz.ntmps30, Exit.thenS]
  refine wpS_of_wp ?_
  change Code.wp _ _ _ { tmps := #[.pointer (some p), .pointer (some q), .nilIface, .nilIface, undef, undef, undef, undef, undef], defers := [] } _
  have hnn := thrown_none
  go_wp2_with fail
  clear hnn
  cases c₀
  simp_all [bodyPostS, results, Tryz.results30]

set_option maxRecDepth 100000 in
set_option maxHeartbeats 3200000 in
theorem parseCatch (p q b : Nat) (g0 g1 q0 : Value) (older : List PanicEntry) (w : World) (c0 : w.cell? ⟨p, 0, none⟩ = some g0) (c1 : w.cell? ⟨p, 1, none⟩ = some g1) (d0 : w.cell? ⟨q, 0, none⟩ = some q0) (z0 : w.frozen? ⟨p, 0, none⟩ = false) (z1 : w.frozen? ⟨p, 1, none⟩ = false) (y0 : w.frozen? ⟨q, 0, none⟩ = false) (hpq : p ≠ q) :
    CallsD Tryz.prog 30 #[.pointer (some ⟨p, 0, none⟩), .pointer (some ⟨q, 0, none⟩)] (.panicking ({ v := .iface 107 (.pointer (some ⟨b, 0, none⟩)), recovered := false } :: older)) w fun e u' w' =>
      e = .returned (.tuple #[]) ∧ u' = .panicking ({ v := .iface 107 (.pointer (some ⟨b, 0, none⟩)), recovered := true } :: older) ∧ w' = ((w.setCell ⟨p, 0, none⟩ (.slice none 0 0)).setCell ⟨p, 1, none⟩ (.slice none 0 0)).setCell ⟨q, 0, none⟩ (.iface 107 (.pointer (some ⟨b, 0, none⟩))) := by
  refine callsD_of_wpS Tryz.func30 rfl fun c₀ cs hu => ?_
  apply wpS_seq
  apply wpS_region
  simp [wpOpsS, go_sem, recoverD, hu, Tryz.ntmps30, Exit.thenS]
  refine wpS_of_wp ?_
  change Code.wp _ _ _ { tmps := #[.pointer (some ⟨p, 0, none⟩), .pointer (some ⟨q, 0, none⟩), .iface 107 (.pointer (some ⟨b, 0, none⟩)), .iface 107 (.pointer (some ⟨b, 0, none⟩)), undef, undef, undef, undef, undef], defers := [] } _
  have hnn := thrown_some ⟨b, 0, none⟩
  have HCA := Lib.hid (caught_at b w)
  go_wp2_with (go_at_call 31; refine HCA.out.mono ?_; rintro e w1 ⟨rfl, rfl⟩)
  simp [bodyPostS, results, Tryz.results30]
end Go.Proofs.YtgonbmcojjcabaaGreatDoor

namespace Go.Proofs.YtgonbmcojjcabaaGreatDoor
open Go.RowKit Lx Tr
variable {w w' : World} {rb n d dd : Nat} {tv : Value} {E : Env}

theorem atoi_digits (d : B) (h : ∀ b ∈ d, isDg b = true) (hne : d ≠ []) (hb : bigV d = false) : Lib.atoiAll d = .ok ((numV d : Nat) : Int) := by
  cases d with
  | nil => exact absurd rfl hne
  | cons c r =>
    have hc := h c (List.mem_cons_self ..)
    have hd : 48 ≤ c.toNat ∧ c.toNat ≤ 57 := by simp [isDg] at hc; exact hc
    have hn : numV (c :: r) ≤ 9223372036854775807 := by
      unfold bigV at hb
      have := of_decide_eq_false hb
      omega
    have e : Lib.parseMag (c :: r) = .ok (numV (c :: r)) := by
      rw [← Lib.parseUintB_64]
      have h2 := parseM_digits (c :: r) h 0 (by omega)
      unfold Lib.parseUintB
      rw [if_neg (by simp)]
      refine h2.trans ?_
      show (if numV (c :: r) ≤ 18446744073709551615 then _ else _) = _
      rw [if_pos (by omega)]
      rfl
    have h45 : ¬ c.toNat = 45 := by omega
    have h43 : ¬ (c.toNat = 43 ∨ c.toNat = 45) := by omega
    unfold Lib.atoiAll
    simp only [if_neg h43]
    rw [e]
    simp only [h45, not_false_eq_true, true_and, false_and, if_false]
    rw [if_neg (by omega)]

theorem tok3 {l : B} {may : Bool} {n : Nat} (hl : l ≠ []) (h : stepV l may = .cut (.tok 3 n)) : n = digV l ∧ bigV (l.take n) = false ∧ 1 ≤ n := by
  obtain ⟨h1, _⟩ := step_tok hl h
  cases l with
  | nil => exact absurd rfl hl
  | cons b r =>
    rw [stepV_cons] at h
    split at h
    · cases h
    split at h
    · cases h
    split at h
    · split at h <;> cases h
    · have h' : cutV (b :: r) = .tok 3 n := by injection h
      have h2 : (if b = 59 then Cut.tok 5 1 else if isDg b then numCut (b :: r) else if 0 < letV (b :: r) then wordCut (b :: r) else sigCut (b :: r)) = .tok 3 n := h'
      by_cases q1 : b = 59
      · rw [if_pos q1] at h2; cases h2
      rw [if_neg q1] at h2
      by_cases q2 : isDg b = true
      · rw [if_pos q2] at h2
        unfold numCut at h2
        split at h2
        · cases h2
        split at h2
        · cases h2
        · rename_i hb
          cases h2
          exact ⟨rfl, by simpa using hb, h1⟩
      rw [if_neg q2] at h2
      by_cases q3 : 0 < letV (b :: r)
      · rw [if_pos q3] at h2
        unfold wordCut at h2
        split at h2
        · cases h2
        split at h2 <;> cases h2
      · rw [if_neg q3] at h2
        unfold sigCut at h2
        split at h2 <;> cases h2
theorem toks_ok : ∀ (l : B) (a : Nat) (may : Bool) (ts : List Tok), lx l a may = (ts, none) → ts.length ≤ l.length + 1 ∧ ∀ t ∈ ts, t.kind = 3 → Lib.atoiAll t.text = .ok (numV t.text : Nat) ∧ t.text.length ≤ l.length := by
  refine lx_induct (fun l _ _ ts => ts.length ≤ l.length + 1 ∧ ∀ t ∈ ts, t.kind = 3 → Lib.atoiAll t.text = .ok (numV t.text : Nat) ∧ t.text.length ≤ l.length) ?_ ?_ ?_
  · intro a may
    unfold endV
    split
    · refine ⟨Nat.le_refl _, fun t ht hk => ?_⟩
      simp at ht
      subst ht
      cases hk
    · exact ⟨Nat.zero_le _, fun t ht => by cases ht⟩
  · intro l a may n ts hl hs h1 h2 _ ih
    rw [List.length_drop] at ih
    exact ⟨by omega, fun t ht hk => ⟨(ih.2 t ht hk).1, by have := (ih.2 t ht hk).2; omega⟩⟩
  · intro l a may k n ts hl hs h1 h2 _ ih
    rw [List.length_drop] at ih
    refine ⟨by simp only [List.length_cons]; omega, fun t ht hk => ?_⟩
    rcases List.mem_cons.1 ht with rfl | ht
    · have hk' : k = 3 := hk
      subst hk'
      obtain ⟨e1, e2, e3⟩ := tok3 hl hs
      refine ⟨atoi_digits _ ?_ ?_ e2, by simp; omega⟩
      · rw [e1, digV_take]; exact dg_all _
      · intro e
        have e' : l.take n = [] := e
        have : (l.take n).length = 0 := by rw [e']; rfl
        rw [List.length_take] at this
        omega
    · exact ⟨(ih.2 t ht hk).1, by have := (ih.2 t ht hk).2; omega⟩
end Go.Proofs.YtgonbmcojjcabaaGreatDoor
