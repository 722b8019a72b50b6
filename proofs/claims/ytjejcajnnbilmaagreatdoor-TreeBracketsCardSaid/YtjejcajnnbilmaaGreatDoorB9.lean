/-
  The law's walk.
-/
import Derived.Test.YtjejcajnnbilmaaGreatDoorB8
set_option maxRecDepth 100000
set_option maxHeartbeats 12800000
namespace Go.Proofs.YtjejcajnnbilmaaGreatDoor
open Go.RowKit Lx Tr
variable {w w' : World}
theorem treeBrackets_any (q : ByteArray) (w : World) (hE : LawEnv w) (hT : ErrT w) : Calls Tryz.prog 6 #[.string q] w fun e w' => e = .returned (.bool true) /\ Below w.heap.size w w' := by
 have HG := zz (grown_any w hE)
 have p4 : 1 < w.heap.size := block_lt_of_cell hT
 have Q2 : Hid (∀ W, Below w.heap.size w W -> ErrT W) := zz fun W hb => hT.below hb p4
 have HE := zz hE
 clear hE hT p4
 go_enter Tryz.func6, Tryz.ntmps6
 go_wp2_with fail
 refine HG.out.mono ?_
 rintro e w1 ⟨rfl, hb1⟩
 have R7 := zz (HE.out.below hb1)
 have Q4 := zz hb1
 clear hb1
 go_wp2_with fail
 refine (read_any q w1 R7.out).mono ?_
 rintro e w2 ⟨hra, hb2⟩
 have Q3 := zz (Q4.out.trans (hb2.mono Q4.out.size))
 have S1 := zz (R7.out.below hb2)
 clear hb2
 rcases hra with ⟨ts, src, m, gxv, fxv, hsa, hts, hev, rfl, hox⟩ | rfl
 ·obtain ⟨ga, gc, rfl⟩ := ownsRow_form hox.choose_spec.1
  obtain ⟨fa, fc, rfl⟩ := ownsRow_form hox.choose_spec.2.1
  obtain ⟨W0, hW0⟩ : ∃ W, W = w2.alloc (.cells #[.slice ga src.globals.length gc, .slice fa src.funcs.length fc] 26) := ⟨_, rfl⟩
  have hbx : Below w2.heap.size w2 W0 := by rw [hW0]; exact fresh_alloc w2 _ _
  have p6 : SrcO W0 w1.heap.size src (.slice ga src.globals.length gc) (.slice fa src.funcs.length fc) := by
   rw [hW0]; exact hox.keeps (S := fun _ => False) ((Keeps.refl _ _).alloc _) (fun _ _ e => e)
  have hsz : w2.heap.size < W0.heap.size := by rw [hW0]; simp
  have C1 : Hid (∀ W, Below W0.heap.size W0 W -> W.cell? ⟨w2.heap.size, 1, none⟩ = some (.slice fa src.funcs.length fc)) := zz fun W hb => by
   rw [hb.cell (p := ⟨w2.heap.size, 1, none⟩) hsz, hW0]; exact cell_new _ _ _ 1 _ rfl (by simp)
  have HF : Hid (FuRow W0 (fun b => b < W0.heap.size) (.slice fa src.funcs.length fc) src.funcs) := zz (p6.toG (fun b h1 _ => h1)).2
  have HV : Hid (∀ g ∈ src.funcs, ∀ s ∈ g.body.toList, (s.val = .nil \/ (∃ d', GoodB s.val d') /\ (bareV s.val).length <= 193628) /\ ExOk s.val) := zz fun g hg s hs => by
   have hq : q.data.toList.length = q.size := Array.length_toList
   refine ⟨?_, stOk_val (stsOk_mem _ ((text_len hts hev).1 g hg) s hs)⟩
   rcases src_val hts hev g hg s hs with e | ⟨e1, e2⟩
   ·exact Or.inl e
   ·exact Or.inr ⟨e1, by omega⟩
  have P1 := zz (S1.out.below hbx)
  have Q7 := zz (Q3.out.trans (hbx.mono Q3.out.size))
  have R2 : Hid (w.heap.size <= W0.heap.size) := zz Q7.out.size
  have hn : src.funcs.length <= maxLen := by
   rcases HF.out with ⟨_, e⟩ | ⟨_, _, _, h1, h2, _⟩
   ·rw [e]; exact Nat.zero_le _
   ·exact Nat.le_trans h1 h2
  have HN : Hid (src.funcs.length <= 9223372036854775807) := zz (by unfold maxLen at hn; omega)
  clear hsa hts hev hox p6 hbx hsz hn
  go_wp2_with fail
  go_loopw [5] (fun i wr => ∃ a : Nat, a <= src.funcs.length /\ i = .int .i64 a /\ Below W0.heap.size W0 wr) (fun i _ => src.funcs.length - (intOf i).toNat)
  case atStart => exact ⟨0, Nat.zero_le _, rfl, by rw [hW0]; exact Below.refl _ _⟩
  case round =>
   obtain ⟨a, ha, rfl, hb⟩ := hrel
   have P3 := zz hb
   have c1 := C1.out wr hb
   have hn := HN.out
   clear hb
   by_cases hlt : a < src.funcs.length
   ·obtain ⟨g, hg⟩ : ∃ g, src.funcs[a]? = some g := ⟨_, List.getElem?_eq_getElem hlt⟩
    obtain ⟨fg, bo, bc, rfl, -, d4, hml, hel⟩ := fun_at HF.out hg
    have hgm : g ∈ src.funcs := List.mem_of_getElem? hg
    have D4 : Hid (∀ W, Below W0.heap.size W0 W -> W.cell? ⟨fg, a * 5 + 4, none⟩ = some (.slice bo g.body.len bc)) := zz fun W hb => by
     rw [hb.cell (p := ⟨fg, a * 5 + 4, none⟩) (block_lt_of_cell d4)]; exact d4
    have hki : (a : Int) < (src.funcs.length : Int) := by omega
    have q6 : (0 : Int) <= (a : Int) /\ (a : Int) < (src.funcs.length : Int) := by omega
    have hw : IntKind.i64.wrap ((a : Int) + 1) = (a : Int) + 1 := IntWalk.i64_in _ (by omega)
    have Q1 : Hid (g.body.len <= 9223372036854775807) := zz (by unfold maxLen at hml; omega)
    have S2 := zz hel
    have Q8 := zz (HV.out g hgm)
    clear d4 hml hel hgm hg
    go_wp2_with fail
    go_loopw [6] (fun k wq => ∃ c : Nat, c <= g.body.len /\ k = .int .i64 c /\ Below W0.heap.size W0 wq) (fun k _ => g.body.len - (intOf k).toNat)
    case atStart => exact ⟨0, Nat.zero_le _, rfl, P3.out⟩
    case round =>
     obtain ⟨c, hc, rfl, hb⟩ := hrel
     have R5 := zz hb
     have c2 := C1.out wr hb
     have c4 := D4.out wr hb
     have hm := Q1.out
     clear hb c1
     by_cases hlc : c < g.body.len
     ·obtain ⟨s, hs⟩ : ∃ s, g.body.toList[c]? = some s := ⟨_, List.getElem?_eq_getElem (by rw [sts_len]; exact hlc)⟩
      obtain ⟨sg, vv, rfl, e4, hvx⟩ := S2.out c s hs
      have hsm : s ∈ g.body.toList := List.mem_of_getElem? hs
      obtain ⟨q4, hok⟩ := Q8.out s hsm
      have e5 : wr.cell? ⟨sg, c * 8 + 4, none⟩ = some vv := by rw [R5.out.cell (p := ⟨sg, c * 8 + 4, none⟩) (block_lt_of_cell e4)]; exact e4
      have hci : (c : Int) < (g.body.len : Int) := by omega
      have q5 : (0 : Int) <= (c : Int) /\ (c : Int) < (g.body.len : Int) := by omega
      have hwc : IntKind.i64.wrap ((c : Int) + 1) = (c : Int) + 1 := IntWalk.i64_in _ (by omega)
      clear e4 hs hsm
      rcases q4 with p3 | ⟨⟨d', q2⟩, q3⟩
      ·rw [p3] at hvx
       have hv0 : vv = .pointer none := hvx
       subst hv0
       clear hvx
       go_wp2_with fail
       exact ⟨⟨c + 1, by omega, by simp, R5.out⟩, by simp [intOf]; omega⟩
      ·generalize s.val = x at *
       obtain ⟨vb, rfl⟩ : ∃ vb, vv = .pointer (some ⟨vb, 0, none⟩) := by
        cases x with
        | nil => rw [GoodB] at q2; exact q2.elim
        | mk => obtain ⟨b, _, _, _, e, _⟩ := hvx; exact ⟨b, e⟩
       have hbl := brV_len x d' q2
       have q7 : ExIn wr (fun k => k < W0.heap.size) (.pointer (some ⟨vb, 0, none⟩)) x := hvx.below R5.out
       have R1 := zz (P1.out.below R5.out)
       have Q6 := zz (brk_all x wr _ R5.out.size (P1.out.penv.below R5.out) q7 hok (by omega))
       unfold Tells at Q6
       have hs1 : ¬ 9223372036854775807 < 17 + (mkT (brV x)).size := by rw [mkT_size]; omega
       have hs2 : ¬ 9223372036854775807 < 17 + (mkT (brV x)).size + 2 := by rw [mkT_size]; omega
       have p2 := exV_le x
       have P8 : Hid (∀ W, Below W0.heap.size W0 W -> Tells W 20 #[.pointer (some ⟨vb, 0, none⟩)] (exV 1 x)) := zz fun W hb => text_ex x hok W _ hb.size (P1.out.penv.below hb) (hvx.below hb) (by omega)
       have P5 : Hid ((exV 1 x).length <= 1000000) := zz (by omega)
       have R4 := zz q2
       clear hvx q7 hbl q3 hok q2 p2
       go_wp2_with fail
       refine Q6.out.mono ?_
       rintro e w3 ⟨rfl, hb3⟩
       have P6 := zz (R5.out.trans (hb3.mono R5.out.size))
       have R6 := zz (R1.out.below hb3)
       clear hb3
       go_wp2_with fail
       rw [progB_cat x]
       refine (treeParse_any _ _ R6.out.tree).mono ?_
       rintro e w4 ⟨q1, hb4⟩
       have Q9 := zz (P6.out.trans (hb4.mono P6.out.size))
       have P9 := zz (R6.out.below hb4)
       clear hb4
       rcases br_parse R4.out q1 with rfl | ⟨b, rfl, e0⟩ | ⟨nm, a1, a2, x', gy, fy, hxx, rfl, hso, p1⟩
       ·have hby := fresh_alloc w4 #[.slice none 0 0, .slice none 0 0] 26
        have P4 := zz (Q9.out.trans (hby.mono Q9.out.size))
        have P2 := zz (tell_errno 4 (w4.alloc (.cells #[.slice none 0 0, .slice none 0 0] 26)) (Q2.out _ (Q7.out.trans (P4.out.mono R2.out))))
        clear hby q1
        go_wp2_with fail
        refine P2.out.mono ?_
        rintro e w5 ⟨rfl, hb5⟩
        have S3 := zz (P4.out.trans (hb5.mono P4.out.size))
        clear hb5
        go_wp2_with fail
        exact ⟨⟨c + 1, by omega, by simp, S3.out⟩, by simp [intOf]; omega⟩
       ·have hby := fresh_alloc w4 #[.slice none 0 0, .slice none 0 0] 26
        have P4 := zz (Q9.out.trans (hby.mono Q9.out.size))
        have P2 := zz (tell_at 4 b (w4.alloc (.cells #[.slice none 0 0, .slice none 0 0] 26)) (Q2.out _ (Q7.out.trans (P4.out.mono R2.out))) (by rw [hby.cell (p := ⟨b, 0, none⟩) (block_lt_of_cell e0)]; exact e0))
        clear hby q1 e0
        go_wp2_with fail
        refine P2.out.mono ?_
        rintro e w5 ⟨rfl, hb5⟩
        have S3 := zz (P4.out.trans (hb5.mono P4.out.size))
        clear hb5
        go_wp2_with fail
        exact ⟨⟨c + 1, by omega, by simp, S3.out⟩, by simp [intOf]; omega⟩
       ·obtain ⟨za, zc, hza⟩ := ownsRow_form hso.choose_spec.1
        obtain ⟨zb, zd, hzb⟩ := ownsRow_form hso.choose_spec.2.1
        have hza' : gy = .slice za 0 zc := hza
        have hzb' : fy = .slice zb 1 zd := hzb
        clear hza hzb
        subst hza'
        subst hzb'
        obtain ⟨Wy, hWy⟩ : ∃ W, W = w4.alloc (.cells #[.slice za 0 zc, .slice zb 1 zd] 26) := ⟨_, rfl⟩
        have hby : Below w4.heap.size w4 Wy := by rw [hWy]; exact fresh_alloc w4 _ _
        have p5 := hso.keeps (S := fun _ => False) (w' := Wy) (by rw [hWy]; exact (Keeps.refl _ _).alloc _) (fun _ _ e => e)
        have q8 : w4.heap.size < Wy.heap.size := by rw [hWy]; simp
        obtain ⟨hg9, bo9, bc9, rfl, -, k4, -, kel⟩ := fun_at (a := 0) (p5.toG (G := fun b => b < Wy.heap.size) (fun b h1 _ => h1)).2 rfl
        obtain ⟨sg9, vv9, rfl, k5, kx⟩ := kel 0 _ rfl
        have kx2 : ExIn Wy (fun b => b < Wy.heap.size) vv9 x' := kx
        obtain ⟨q9, rfl⟩ := exIn_ptr kx2
        have P4 := zz (Q9.out.trans (hby.mono Q9.out.size))
        have P2 := zz (text_ex x' p1 Wy _ (Nat.le_refl _) (P9.out.below hby).penv kx2 (by rw [<- exV_E 1 x', hxx, exV_E 1 x]; have := P5.out; omega))
        have heq : exV 1 x' = exV 1 x := by rw [<- exV_E 1 x', hxx, exV_E 1 x]
        rw [heq] at P2
        unfold Tells at P2
        have K1 : Wy.cell? ⟨w4.heap.size, 1, none⟩ = some (.slice (some ⟨hg9, 0, none⟩) 1 zd) := by rw [hWy]; exact cell_new _ _ _ 1 _ rfl (by simp)
        have K4 : Wy.cell? ⟨hg9, 4, none⟩ = some (.slice (some ⟨sg9, 0, none⟩) 1 bc9) := k4
        have K5 : Wy.cell? ⟨sg9, 4, none⟩ = some (.pointer q9) := k5
        have hE9 := err_none
        have R8 : Hid (Calls Tryz.prog 19 #[.nilIface] Wy fun e w' => e = .returned (.int .i64 0) /\ Wy = w') := zz (tell_nil Wy)
        clear q1 hso p5 hby k4 k5 kel kx kx2 heq hxx p1 q8
        subst hWy
        go_wp2_with fail
        refine R8.out.mono ?_
        rintro e w5 ⟨rfl, rfl⟩
        go_wp2_with fail
        refine P2.out.mono ?_
        rintro e w6 ⟨rfl, hb6⟩
        have Q5 := zz (P4.out.trans (hb6.mono P4.out.size))
        have R3 := zz (P8.out w6 Q5.out)
        unfold Tells at R3
        clear hb6
        go_wp2_with fail
        refine R3.out.mono ?_
        rintro e w7 ⟨rfl, hb7⟩
        have P7 := zz (Q5.out.trans (hb7.mono Q5.out.size))
        clear hb7
        go_wp2_with fail
        exact ⟨⟨c + 1, by omega, by simp, P7.out⟩, by simp [intOf]; omega⟩
     ·have hci : ¬ (c : Int) < (g.body.len : Int) := by omega
      go_wp2_with fail
      exact ⟨⟨a + 1, by omega, by simp, R5.out⟩, by simp [intOf]; omega⟩
   ·have hki : ¬ (a : Int) < (src.funcs.length : Int) := by omega
    go_wp2_with fail
    go_ret
    exact ⟨rfl, Q7.out.trans (P3.out.mono R2.out)⟩
 ·have hbx := fresh_alloc w2 #[.slice none 0 0, .slice none 0 0] 26
  have R9 := zz (Q3.out.trans (hbx.mono Q3.out.size))
  clear hbx
  go_wp2_with fail
  go_ret
  exact ⟨rfl, R9.out⟩
end Go.Proofs.YtjejcajnnbilmaaGreatDoor
