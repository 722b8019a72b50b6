/-
  Texts of one proof, in build order: TreeSN TreeSO LexM3 LexM4 TreeSP TreeSQ TreeP1 TreeP2 TreeP3 TreeW2 TreeW3 TreeW4 TreeP4 TreeP5 TreeP6
-/
import Derived.Test.YtjejcajnnbilmaaGreatDoorB4
import Derived.Recover
import Derived.Lib.ParseIntBCases
import Derived.Deep.RegionHeld3
import Derived.Lib.Builder
import Derived.Deep.RegionHeld
import Derived.Lib.AppendStr
import Derived.Lib.UnsafeStr
import Derived.Lib.ItoaNum
import Derived.Lib.LaidTab
set_option maxRecDepth 100000
set_option maxHeartbeats 12800000
namespace Go.Proofs.YtjejcajnnbilmaaGreatDoor
open Go.RowKit Lx Tr
variable {w w' : World} {rb n d dd : Nat} {tv : Value} {E : Env}
def SrcV (w w' : World) (src : Src) (v : Value) : Prop := ∃ gv fv, v = .agg #[gv, fv] /\ SrcO w' w.heap.size src gv fv
theorem SrcF.keeps {F S : Nat -> Prop} {src : Src} {gv fv : Value} (h : SrcF w F src gv fv) (hk : Keeps S w w') (hF : ∀ b, F b -> ¬ S b) : SrcF w' F src gv fv := by
 refine ⟨?_, ?_⟩
 ·rcases h.1 with h | ⟨g, cap, h1, h2, h3, h4, h5, h6⟩
  ·exact Or.inl h
  ·exact Or.inr ⟨g, cap, h1, h2, h3, h4, h5, fun i p hi => ⟨hk.cell_of (h6 i p hi).1 (hF g h4), hk.cell_of (h6 i p hi).2 (hF g h4)⟩⟩
 ·rcases h.2 with h | ⟨g, cap, h1, h2, h3, h4, h5, h6⟩
  ·exact Or.inl h
  ·refine Or.inr ⟨g, cap, h1, h2, h3, h4, h5, fun i p hi => ?_⟩
   obtain ⟨pv, bv, a0, a1, a2, a3, a4, a5, a6⟩ := h6 i p hi
   have hn := hF g h4
   exact ⟨pv, bv, hk.cell_of a0 hn, hk.cell_of a1 hn, hk.cell_of a2 hn, hk.cell_of a3 hn, hk.cell_of a4 hn, a5.keeps hk hF, a6.keeps hk hF⟩
theorem SrcF.mono {F G : Nat -> Prop} (hF : ∀ b, F b -> G b) {src : Src} {gv fv : Value} (h : SrcF w F src gv fv) : SrcF w G src gv fv := by
 refine ⟨?_, ?_⟩
 ·rcases h.1 with h | ⟨g, cap, h1, h2, h3, h4, h5, h6⟩
  ·exact Or.inl h
  ·exact Or.inr ⟨g, cap, h1, h2, h3, hF g h4, h5, h6⟩
 ·rcases h.2 with h | ⟨g, cap, h1, h2, h3, h4, h5, h6⟩
  ·exact Or.inl h
  ·refine Or.inr ⟨g, cap, h1, h2, h3, hF g h4, h5, fun i p hi => ?_⟩
   obtain ⟨pv, bv, a0, a1, a2, a3, a4, a5, a6⟩ := h6 i p hi
   exact ⟨pv, bv, a0, a1, a2, a3, a4, PaRow.mono (fun b _ h => hF b h) a5, StsF.mono hF a6⟩
theorem SrcF.form {F : Nat -> Prop} {src : Src} {gv fv : Value} (h : SrcF w F src gv fv) : (∃ a l c, gv = .slice a l c) /\ ∃ a l c, fv = .slice a l c := by
 refine ⟨?_, ?_⟩
 ·rcases h.1 with ⟨h, _⟩ | ⟨g, cap, h1, _⟩
  ·exact ⟨_, _, _, h⟩
  ·exact ⟨_, _, _, h1⟩
 ·rcases h.2 with ⟨h, _⟩ | ⟨g, cap, h1, _⟩
  ·exact ⟨_, _, _, h⟩
  ·exact ⟨_, _, _, h1⟩
theorem params_on : ∀ (f : Nat) (acc : List Pa) (n : Nat) (x : List Pa) (m : Nat), params E f acc n = .ok x m -> n <= m
 | 0, _, _, _, _, h => by rw [params] at h; cases h
 | f + 1, acc, n, x, m, h => by
  rw [params_eq] at h
  obtain ⟨t, n1, h1, h⟩ := bind_ok h
  have a1 := takeKind_on h1
  by_cases q : kindV (pk E n1).text = 0
  ·rw [if_pos q] at h; exact (fail_ok h).elim
  rw [if_neg q] at h
  by_cases q2 : (pk E (n1 + 1)).text = tComma
  ·rw [if_pos q2] at h
   have := params_on f _ _ _ _ h
   omega
  ·rw [if_neg q2] at h
   obtain ⟨_, n2, h2, h⟩ := bind_ok h
   have := take_on h2
   cases h; omega
theorem function_on {f n m : Nat} {g : Fu} (h : Tr.function E f n = .ok g m) : n < m := by
 unfold Tr.function at h
 obtain ⟨_, n1, h1, h⟩ := bind_ok h
 obtain ⟨_, n2, h2, h⟩ := bind_ok h
 obtain ⟨_, n3, h3, h⟩ := bind_ok h
 obtain ⟨_, n4, h4, h⟩ := bind_ok h
 obtain ⟨_, n5, h5, h⟩ := bind_ok h
 have a1 := take_on h1
 have a2 := takeKind_on h2
 have a3 := take_on h3
 have a5 := (sons f).block _ _ _ _ h5
 have a4 : n3 <= n4 := by
  by_cases q : (pk E n3).text = tRp
  ·rw [if_pos q] at h4; cases h4; omega
  ·rw [if_neg q] at h4; exact params_on f _ _ _ _ h4
 cases h
 split at a5 <;> omega
theorem ev_fun_on {n m : Nat} {g : Fu} (h : Ev (fun f => Tr.function E f n) (.ok g m)) : n < m := by
 obtain ⟨f, hf⟩ := h.get
 exact function_on hf
theorem program_any (w : World) (h : RdAt w rb tv E n 0) (hE : TEnv rb E w) : Calls Tryz.prog 32 #[.pointer (some ⟨rb, 0, none⟩)] w fun e w' => ∃ r, Ev (fun f => Tr.program E f ⟨[], []⟩ n) r /\ Says SrcV w w' rb tv E 0 r e := by
 obtain ⟨wl, hwl⟩ : ∃ wl, wl = ((w.alloc (.cells #[.slice none 0 0, .slice none 0 0] 26)).alloc (.cells #[.slice none 0 0, .slice none 0 0] 26)) := ⟨_, rfl⟩
 have hbl : Below w.heap.size w wl := by rw [hwl]; exact ((Keeps.refl (fun _ => False) w).alloc _).alloc _ |>.below (Nat.le_refl _) (fun _ _ e => e.elim)
 have hrv : Blk wl w.heap.size [.slice none 0 0, .slice none 0 0] := by rw [hwl]; exact (Blk.new' w [.slice none 0 0, .slice none 0 0] _ rfl).keeps (S := fun _ => False) ((Keeps.refl _ _).alloc _) id
 have hsrc : Blk wl (w.heap.size + 1) [.slice none 0 0, .slice none 0 0] := by rw [hwl]; exact Blk.new' _ [.slice none 0 0, .slice none 0 0] _ (by simp)
 have hszl : wl.heap.size = w.heap.size + 2 := by rw [hwl]; simp
 have HI0 : Hid (ProgJ w wl rb tv E (w.heap.size + 1) (fun r => Ev (fun f => Tr.program E f ⟨[], []⟩ n) r) wl n ⟨[], []⟩) := zz ⟨h.fresh hbl, hE.fresh hbl, Keeps.of_new hbl, Keeps.refl _ _, ⟨_, _, [], hsrc, World.ownsRow_nil _ _ _ _, World.ownsRow_nil _ _ _ _, rfl, fun _ => rfl, fun _ => rfl, fun b e => by cases e⟩, ⟨h.lt, Nat.le_succ _, by omega, Nat.le_refl _⟩, fun _ h => h⟩
 have HRVL := zz hrv
 have HSZL := zz hszl
 have HLT := zz h.lt
 have e118 : (⟨#[118, 97, 114]⟩ : ByteArray).data.toList = tVar := rfl
 have e102 : (⟨#[102, 117, 110, 99]⟩ : ByteArray).data.toList = tFunc := rfl
 obtain ⟨iG, hiG, hzG0, hzG1, hzG2⟩ := tinfo info_global
 obtain ⟨iF, hiF, hzF0, hzF1, hzF2⟩ := tinfo info_func
 clear h hE hbl hrv hsrc hszl
 go_enter Tryz.func32, Tryz.ntmps32
 go_wp2_with fail
 rw [<- hwl]
 clear hwl
 go_loopw [] (fun wr => ∃ m src, ProgJ w wl rb tv E (w.heap.size + 1) (fun r => Ev (fun f => Tr.program E f ⟨[], []⟩ n) r) wr m src) (fun wr => E.toks.length - posOf wr rb)
 case atStart => exact ⟨n, ⟨[], []⟩, HI0.out⟩
 case round =>
  obtain ⟨m, src, hj⟩ := hrel
  have HJ := zz hj
  have HEN := zz (ended_any wr hj.rd)
  clear hj
  by_cases hen : E.toks.length <= m
  ·rw [decide_eq_true hen] at HEN
   have HN := zz hen
   clear hen
   go_wp2_with fail
   refine HEN.out.mono ?_
   rintro e w1 ⟨rfl, q, hq⟩
   have hb1 : Below wr.heap.size wr w1 := by rw [hq]; exact below_drewNs (Below.refl _ _) q
   have hj1 := HJ.out.on (G2 := (fun r => Ev (fun f => Tr.program E f ⟨[], []⟩ n) r)) (Keeps.of_new hb1) (HJ.out.rd.fresh hb1) HJ.out.ev
   obtain ⟨gv, fv, hb, hs⟩ := hj1.src
   obtain ⟨⟨ga, gl, gc, rfl⟩, fa, fl, fc, rfl⟩ := hs.form
   have hrv := HRVL.out.keeps hj1.kl (fun e => by have := HLT.out; omega)
   have c0 := hb.at_ 0 _ rfl
   have c1 := hb.at_ 1 _ rfl
   have r0 := hrv.at_ 0 _ rfl
   have r1 := hrv.at_ 1 _ rfl
   have y0 := hrv.free 0
   have y1 := hrv.free 1
   have HS1 := zz hs
   have HJ1 := zz hj1
   clear hq hb1 hj1 hb hs hrv
   go_wp2_with fail
   have hks : Keeps (fun b => b = w.heap.size) w1 ((w1.setCell ⟨w.heap.size, 0, none⟩ (.slice ga gl gc)).setCell ⟨w.heap.size, 1, none⟩ (.slice fa fl fc)) := own2
   have hlt0 := HLT.out
   have hlo := HJ1.out.lo
   refine bodyPost_ret (v := .agg #[.slice ga gl gc, .slice fa fl fc]) (by simp [results, Tryz.results32, go_sem, r0, r1]) rfl ⟨.ok src m, HJ.out.ev _ (Ev.now (fun e => by cases e) fun f => by rw [program_eq, if_pos HN.out]), _, rfl, ⟨_, _, rfl, SrcO.mono (by omega) (HS1.out.keeps hks (fun b e e2 => by omega))⟩, HJ1.out.rd.keeps hks (fun b e => by omega), HJ1.out.kp.trans' hks (fun i hi e => by omega)⟩
  ·rw [decide_eq_false hen] at HEN
   have HN := zz hen
   clear hen
   go_wp2_with fail
   refine HEN.out.mono ?_
   rintro e w1 ⟨rfl, q, hq⟩
   have hb1 : Below wr.heap.size wr w1 := by rw [hq]; exact below_drewNs (Below.refl _ _) q
   have hj1 := HJ.out.on (G2 := (fun r => Ev (fun f => Tr.program E f ⟨[], []⟩ n) r)) (Keeps.of_new hb1) (HJ.out.rd.fresh hb1) HJ.out.ev
   have HJ1 := zz hj1
   have HIS := is_any ⟨#[118, 97, 114]⟩ w1 hj1.rd
   rw [e118] at HIS
   have HI := zz HIS
   clear hq hb1 hj1 HIS
   go_wp2_with fail
   by_cases hv : (pk E m).text = tVar
   ·rw [decide_eq_true hv] at HI
    have HV := zz hv
    clear hv
    refine HI.out.mono ?_
    rintro e w2 ⟨rfl, hb2⟩
    have hj2 := HJ1.out.on (G2 := (fun r => Ev (fun f => Tr.program E f ⟨[], []⟩ n) r)) (Keeps.of_new hb2) (HJ1.out.rd.fresh hb2) HJ.out.ev
    have HJ2 := zz hj2
    clear hb2 hj2
    obtain ⟨gv, fv, fvals, hblk, hgo, hfo, hrf, h5, h6, h7⟩ := HJ2.out.row
    have hform : ∃ ao cap, gv = .slice ao src.globals.length cap := by
     rcases hgo.2 with ⟨e1, e2⟩ | ⟨g, cap, cur, e1, _⟩
     ·exact ⟨none, 0, by rw [e1, e2]⟩
     ·exact ⟨_, _, e1⟩
    obtain ⟨ao0, cap0, rfl⟩ := hform
    have c0 := hblk.at_ 0 _ rfl
    have HBLK := zz hblk
    have HGO := zz hgo
    have HFO := zz hfo
    have HRF := zz hrf
    have H5 := zz h5
    have H6 := zz h6
    have H7 := zz h7
    have HLO := zz HJ2.out.lo
    clear hblk hgo hfo hrf h5 h6 h7
    by_cases h8 : 8 <= src.globals.length
    ·have HRM : Hid (Calls Tryz.prog 59 #[.pointer (some ⟨rb, 0, none⟩), .int .i64 (src.globals.length : Nat), .int .i64 8] w2 fun e w' => Threw w2 w' rb 4 (pk E m).at_ e) := zz ((hasRoom_tok src.globals.length 8 w2 HJ2.out.rd).mono fun e w' h => by rw [if_pos h8] at h; exact h)
     have H8 := zz h8
     clear h8
     go_wp2_with fail
     refine HRM.out.mono ?_
     rintro e w3 hth
     have hth2 := hth.own HLT.out HJ2.out.kp
     obtain ⟨b, rfl⟩ := threw_panic hth
     refine ⟨rfl, .bad 4 (pk E m).at_, HJ.out.ev _ (Ev.now (fun e => by cases e) fun f => ?_), hth2⟩
     rw [program_eq, if_neg HN.out, if_pos HV.out, if_pos H8.out]; rfl
    ·have HRM : Hid (Calls Tryz.prog 59 #[.pointer (some ⟨rb, 0, none⟩), .int .i64 (src.globals.length : Nat), .int .i64 8] w2 fun e w' => e = .returned (.tuple #[]) /\ w2 = w') := zz ((hasRoom_tok src.globals.length 8 w2 HJ2.out.rd).mono fun e w' h => by rw [if_neg h8] at h; exact h)
     have HSEQ : Hid (∀ r, Ev (fun f => (globalV E m).bind fun g m1 => (takeKind E 5 m1).bind fun _ m2 => Tr.program E f ⟨src.globals ++ [g], src.funcs⟩ m2) r -> Ev (fun f => Tr.program E f ⟨[], []⟩ n) r) := zz fun r hr => HJ.out.ev _ (Ev.step (h := fun f => (globalV E m).bind fun g m1 => (takeKind E 5 m1).bind fun _ m2 => Tr.program E f ⟨src.globals ++ [g], src.funcs⟩ m2) (fun f => by
      rw [program_eq, if_neg HN.out, if_pos HV.out, if_neg h8]
      unfold globalV
      simp only [bind_assoc]
      rfl) hr)
     have hl8 : src.globals.length <= 12 := by omega
     have HML : Hid (src.globals.length + 1 <= maxLen) := zz (by unfold maxLen; omega)
     have HBY : Hid ((src.globals.length + 1) * 24 <= 140737488355328) := zz (by omega)
     clear h8 hl8
     go_wp2_with fail
     refine HRM.out.mono ?_
     rintro e w3 ⟨rfl, rfl⟩
     go_wp2_with fail
     change Code.wp _ _ _ _ _
     have c0d : w2.drew.cell? ⟨w.heap.size + 1, 0, none⟩ = some (.slice ao0 src.globals.length cap0) := c0
     have HRD := zz (HJ2.out.rd.fresh (Below.drew (Below.refl _ _)))
     have HCC := zz (global_any w2.drew HRD.out HV.out)
     refine wp_region_held_drew (S := fun _ => True) (by kernel_rfl) trivial (fun hHeld => ?_)
     refine tk 0 17 (.pointer (some ⟨w.heap.size + 1, 0, none⟩)) rfl (.inl ⟨by rfl, ?_⟩) hHeld ?_
     ·intro W9 hSW; (try dsimp only at hSW); go_simp
     try simp only [Act.put, List.setIfInBounds_toArray, List.set_cons_zero, List.set_cons_succ]
     refine tk 2 19 (.pointer (some ⟨rb, 0, none⟩)) rfl (.inl ⟨by rfl, ?_⟩) hHeld ?_
     ·intro W9 hSW; (try dsimp only at hSW); go_simp
     try simp only [Act.put, List.setIfInBounds_toArray, List.set_cons_zero, List.set_cons_succ]
     refine wpAnyH_ready (rs := [1, 3]) (by kernel_rfl) (by simp) ?_
     refine AllReadyH.cons (o := { dst := some 18, op := _, type := _, pos := _, after := _, guard := _ }) rfl (fun K hK => ?_) (AllReadyH.cons (o := { dst := some 20, op := _, type := _, pos := _, after := _, guard := _ }) rfl (fun K hK => ?_) AllReadyH.nil)
     ·go_simp
      refine hK.out _ _ trivial (fun hHeld => ?_)
      clear hK K
      refine wpAnyH_ready (rs := [3]) (by kernel_rfl) (by simp) ?_
      refine AllReadyH.cons (o := { dst := some 20, op := _, type := _, pos := _, after := _, guard := _ }) rfl (fun K hK => ?_) AllReadyH.nil
      go_simp
      go_at_call 60
      refine HCC.out.mono ?_
      rintro e w4 hsay
      rcases hq : globalV E m with _ | ⟨k, a⟩ | ⟨g, m1⟩
      ·rw [hq] at hsay; exact hsay.elim
      ·rw [hq] at hsay
       have hsay' : Threw _ w4 rb k a e := hsay
       obtain ⟨b, rfl⟩ := threw_panic hsay'
       exact ⟨rfl, .bad k a, HSEQ.out _ (Ev.pure (fun e => by cases e) fun _ => by rw [hq]; rfl), hsay'.own HLT.out HJ2.out.kp.drew⟩
      rw [hq] at hsay
      have HEV : Hid (∀ r, Ev (fun f => (takeKind E 5 m1).bind fun _ m2 => Tr.program E f ⟨src.globals ++ [g], src.funcs⟩ m2) r -> Ev (fun f => Tr.program E f ⟨[], []⟩ n) r) := zz fun r hr => HSEQ.out _ (by rw [hq]; exact hr)
      have HMM : Hid (m < m1) := zz (by
       unfold globalV at hq
       obtain ⟨_, k, h1, h2⟩ := bind_ok hq
       have := takeKind_on h1
       cases h2; omega)
      obtain ⟨v4, rfl, rfl, hr4, hk4⟩ := hsay
      have hkw : Keeps (fun b => b = rb) w2 w4 := ((Keeps.refl (fun b => b = rb) w2).drew).trans hk4
      have hb4 := HBLK.out.keeps hkw (fun e => by have := HLO.out; have : w.heap.size + 1 = rb := e; omega)
      have y4 := hb4.at_ 0 _ rfl
      have y5 := hb4.free 0
      have q4 : w.heap.size + 1 < w4.heap.size := hb4.lt
      have hown4 : w4.ownsRow wl.heap.size 64 2 (.slice ao0 src.globals.length cap0) src.globals.length (glCells src.globals) := hkw.row HGO.out (fun b e e2 => by have := (own_ge HGO.out b e).1; have := HLO.out; have : b = rb := e2; omega)
      have hszw : wl.heap.size <= w4.heap.size := Nat.le_trans HLO.out.2.2.2 hkw.size
      have HH1 : Hid (∀ x ∈ [Value.string (mkT g.name), Value.int .i64 (g.at_ : Nat)], x.oneCell' = true) := zz (fun (x : Value) hx => by simp at hx; rcases hx with rfl | rfl <;> rfl)
      have HCN := zz (cells_new w4 [.string (mkT g.name), .int .i64 (g.at_ : Nat)] 64)
      have HOW := zz hown4
      have HR4 := zz hr4
      have HK4 := zz hkw
      have HSZ := zz hszw
      clear hr4 hk4 hkw hown4 hszw hb4
      refine hK.out _ _ trivial (fun hHeld => ?_)
      clear hK K
      refine wpAnyH_ready (rs := [4]) (by kernel_rfl) (by simp) ?_
      refine AllReadyH.cons (o := { dst := some 21, op := _, type := _, pos := _, after := _, guard := _ }) rfl (fun K hK => ?_) AllReadyH.nil
      go_simp
      refine hK.out _ _ trivial (fun hHeld => ?_)
      clear hK K
      refine wpAnyH_ready (rs := [5]) (by kernel_rfl) (by simp) ?_
      refine AllReadyH.cons (o := { dst := some 22, op := _, type := _, pos := _, after := _, guard := _ }) rfl (fun K hK => ?_) AllReadyH.nil
      refine step_appendX rfl (.tmp 18) (.tmp 21) 23 64 rfl iG (.agg #[.string ByteArray.empty, .int .i64 0]) 2 24 Tryz.underlying23 hiG hzG0 hzG1 hzG2 rfl (by decide) wl.heap.size (.slice ao0 src.globals.length cap0) src.globals.length _ (World.ownsRow.alloc HOW.out _) HML.out HBY.out (by have := HSZ.out; simp; omega) ⟨w4.heap.size, 0, none⟩ _ rfl HCN.out HH1.out (by simp [Act.eval]) (by simp [Act.eval]) ?_
      intro ao' cap' w5 hown5 hgrow5 hnew
      have HNW : Hid ((Value.slice ao' (src.globals.length + 1) cap').ownBlock = (Value.slice ao0 src.globals.length cap0).ownBlock \/ (Value.slice ao' (src.globals.length + 1) cap').ownBlock = some (w4.heap.size + 1)) := zz (by simpa using hnew)
      clear hnew
      have hk5 : Keeps (fun b => (Value.slice ao0 src.globals.length cap0).ownBlock = some b) w4 w5 := ((Keeps.refl (fun b => (Value.slice ao0 src.globals.length cap0).ownBlock = some b) w4).alloc _).trans' (Keeps.of_grownBy hgrow5 (fun k _ e => e)) (fun _ _ e => e)
      have hnb : ¬ (Value.slice ao0 src.globals.length cap0).ownBlock = some (w.heap.size + 1) := fun e => by have := (own_ge HOW.out _ e).1; have := HSZL.out; omega
      have y6 : w5.cell? ⟨w.heap.size + 1, 0, none⟩ = some (.slice ao0 src.globals.length cap0) := hk5.cell_of y4 hnb
      have y7 : w5.frozen? ⟨w.heap.size + 1, 0, none⟩ = false := by rw [hk5.frozen (p := ⟨w.heap.size + 1, 0, none⟩) q4 hnb]; exact y5
      have HO5 := zz hown5
      have HG5 := zz hgrow5
      clear hown5 hgrow5 hk5 hnb
      refine hK.out _ _ trivial (fun hHeld => ?_)
      clear hK K
      try simp only [Act.put, List.setIfInBounds_toArray, List.set_cons_zero, List.set_cons_succ]
      refine tk 6 23 (.pointer (some ⟨w.heap.size + 1, 0, none⟩)) rfl (.inl ⟨by rfl, ?_⟩) hHeld ?_
      ·intro W9 hSW; (try dsimp only at hSW); go_simp
      try simp only [Act.put, List.setIfInBounds_toArray, List.set_cons_zero, List.set_cons_succ]
      refine wpAnyH_ready (rs := [7]) (by kernel_rfl) (by simp) ?_
      refine AllReadyH.cons (o := { dst := none, op := _, type := _, pos := _, after := _, guard := _ }) rfl (fun K hK => ?_) AllReadyH.nil
      go_simp
      refine hK.out _ _ trivial (fun hHeld => ?_)
      clear hK K
      refine wpAnyH_done (by kernel_rfl) ?_ _
      have hj5 := HJ2.out.nextG (G2 := fun _ => True) (g := g) HBLK.out HGO.out HFO.out HRF.out H5.out H6.out H7.out HK4.out HR4.out HG5.out HO5.out HNW.out (fun _ _ => trivial)
      have HJ5 := zz hj5
      have HTK := zz (takeKind_tok 5 (by decide) _ hj5.rd)
      clear hj5 y4 y5 y6 y7 c0 c0d q4
      go_wp2_with fail
      cases ht : takeKind E 5 m1 with
      | out => exact absurd ht (takeKind_ne E _ _)
      | bad k a =>
       rw [ht] at HTK
       refine HTK.out.mono ?_
       rintro e w7 hth
       have hth2 := Threw.own hth HLT.out HJ5.out.kp
       obtain ⟨b, rfl⟩ := threw_panic hth
       exact ⟨rfl, .bad k a, HEV.out _ (Ev.pure (fun e => by cases e) fun _ => by rw [ht]; rfl), hth2⟩
      | ok t m2 =>
       rw [ht] at HTK
       refine HTK.out.mono ?_
       rintro e w7 ⟨v7, rfl, _, hr7, hk7⟩
       have hm2 := takeKind_on ht
       have hj7 := HJ5.out.on (G2 := (fun r => Ev (fun f => Tr.program E f ⟨[], []⟩ n) r)) hk7 hr7 (fun r hr => HEV.out r (by rw [ht]; exact hr))
       have HJ7 := zz hj7
       have HM2 := zz hm2
       clear hj7 hr7 hk7 ht hm2
       go_wp2_with fail
       refine ⟨⟨m2, _, HJ7.out⟩, ?_⟩
       have h1 := HJ7.out.rd
       have h2 := HJ.out.rd
       rw [h1.pos, h2.pos]
       have := h1.hn
       have := HMM.out
       have := HM2.out
       omega
     ·go_simp
      go_at_call 60
      refine HCC.out.mono ?_
      rintro e w4 hsay
      rcases hq : globalV E m with _ | ⟨k, a⟩ | ⟨g, m1⟩
      ·rw [hq] at hsay; exact hsay.elim
      ·rw [hq] at hsay
       have hsay' : Threw _ w4 rb k a e := hsay
       obtain ⟨b, rfl⟩ := threw_panic hsay'
       exact ⟨rfl, .bad k a, HSEQ.out _ (Ev.pure (fun e => by cases e) fun _ => by rw [hq]; rfl), hsay'.own HLT.out HJ2.out.kp.drew⟩
      rw [hq] at hsay
      have HEV : Hid (∀ r, Ev (fun f => (takeKind E 5 m1).bind fun _ m2 => Tr.program E f ⟨src.globals ++ [g], src.funcs⟩ m2) r -> Ev (fun f => Tr.program E f ⟨[], []⟩ n) r) := zz fun r hr => HSEQ.out _ (by rw [hq]; exact hr)
      have HMM : Hid (m < m1) := zz (by
       unfold globalV at hq
       obtain ⟨_, k, h1, h2⟩ := bind_ok hq
       have := takeKind_on h1
       cases h2; omega)
      obtain ⟨v4, rfl, rfl, hr4, hk4⟩ := hsay
      have hkw : Keeps (fun b => b = rb) w2 w4 := ((Keeps.refl (fun b => b = rb) w2).drew).trans hk4
      have hb4 := HBLK.out.keeps hkw (fun e => by have := HLO.out; have : w.heap.size + 1 = rb := e; omega)
      have y4 := hb4.at_ 0 _ rfl
      have y5 := hb4.free 0
      have q4 : w.heap.size + 1 < w4.heap.size := hb4.lt
      have hown4 : w4.ownsRow wl.heap.size 64 2 (.slice ao0 src.globals.length cap0) src.globals.length (glCells src.globals) := hkw.row HGO.out (fun b e e2 => by have := (own_ge HGO.out b e).1; have := HLO.out; have : b = rb := e2; omega)
      have hszw : wl.heap.size <= w4.heap.size := Nat.le_trans HLO.out.2.2.2 hkw.size
      have HH1 : Hid (∀ x ∈ [Value.string (mkT g.name), Value.int .i64 (g.at_ : Nat)], x.oneCell' = true) := zz (fun (x : Value) hx => by simp at hx; rcases hx with rfl | rfl <;> rfl)
      have HCN := zz (cells_new w4 [.string (mkT g.name), .int .i64 (g.at_ : Nat)] 64)
      have HOW := zz hown4
      have HR4 := zz hr4
      have HK4 := zz hkw
      have HSZ := zz hszw
      clear hr4 hk4 hkw hown4 hszw hb4
      refine hK.out _ _ trivial (fun hHeld => ?_)
      clear hK K
      refine wpAnyH_ready (rs := [1, 4]) (by kernel_rfl) (by simp) ?_
      refine AllReadyH.cons (o := { dst := some 18, op := _, type := _, pos := _, after := _, guard := _ }) rfl (fun K hK => ?_) (AllReadyH.cons (o := { dst := some 21, op := _, type := _, pos := _, after := _, guard := _ }) rfl (fun K hK => ?_) AllReadyH.nil)
      ·go_simp
       refine hK.out _ _ trivial (fun hHeld => ?_)
       clear hK K
       refine wpAnyH_ready (rs := [4]) (by kernel_rfl) (by simp) ?_
       refine AllReadyH.cons (o := { dst := some 21, op := _, type := _, pos := _, after := _, guard := _ }) rfl (fun K hK => ?_) AllReadyH.nil
       go_simp
       refine hK.out _ _ trivial (fun hHeld => ?_)
       clear hK K
       refine wpAnyH_ready (rs := [5]) (by kernel_rfl) (by simp) ?_
       refine AllReadyH.cons (o := { dst := some 22, op := _, type := _, pos := _, after := _, guard := _ }) rfl (fun K hK => ?_) AllReadyH.nil
       refine step_appendX rfl (.tmp 18) (.tmp 21) 23 64 rfl iG (.agg #[.string ByteArray.empty, .int .i64 0]) 2 24 Tryz.underlying23 hiG hzG0 hzG1 hzG2 rfl (by decide) wl.heap.size (.slice ao0 src.globals.length cap0) src.globals.length _ (World.ownsRow.alloc HOW.out _) HML.out HBY.out (by have := HSZ.out; simp; omega) ⟨w4.heap.size, 0, none⟩ _ rfl HCN.out HH1.out (by simp [Act.eval]) (by simp [Act.eval]) ?_
       intro ao' cap' w5 hown5 hgrow5 hnew
       have HNW : Hid ((Value.slice ao' (src.globals.length + 1) cap').ownBlock = (Value.slice ao0 src.globals.length cap0).ownBlock \/ (Value.slice ao' (src.globals.length + 1) cap').ownBlock = some (w4.heap.size + 1)) := zz (by simpa using hnew)
       clear hnew
       have hk5 : Keeps (fun b => (Value.slice ao0 src.globals.length cap0).ownBlock = some b) w4 w5 := ((Keeps.refl (fun b => (Value.slice ao0 src.globals.length cap0).ownBlock = some b) w4).alloc _).trans' (Keeps.of_grownBy hgrow5 (fun k _ e => e)) (fun _ _ e => e)
       have hnb : ¬ (Value.slice ao0 src.globals.length cap0).ownBlock = some (w.heap.size + 1) := fun e => by have := (own_ge HOW.out _ e).1; have := HSZL.out; omega
       have y6 : w5.cell? ⟨w.heap.size + 1, 0, none⟩ = some (.slice ao0 src.globals.length cap0) := hk5.cell_of y4 hnb
       have y7 : w5.frozen? ⟨w.heap.size + 1, 0, none⟩ = false := by rw [hk5.frozen (p := ⟨w.heap.size + 1, 0, none⟩) q4 hnb]; exact y5
       have HO5 := zz hown5
       have HG5 := zz hgrow5
       clear hown5 hgrow5 hk5 hnb
       refine hK.out _ _ trivial (fun hHeld => ?_)
       clear hK K
       try simp only [Act.put, List.setIfInBounds_toArray, List.set_cons_zero, List.set_cons_succ]
       refine tk 6 23 (.pointer (some ⟨w.heap.size + 1, 0, none⟩)) rfl (.inl ⟨by rfl, ?_⟩) hHeld ?_
       ·intro W9 hSW; (try dsimp only at hSW); go_simp
       try simp only [Act.put, List.setIfInBounds_toArray, List.set_cons_zero, List.set_cons_succ]
       refine wpAnyH_ready (rs := [7]) (by kernel_rfl) (by simp) ?_
       refine AllReadyH.cons (o := { dst := none, op := _, type := _, pos := _, after := _, guard := _ }) rfl (fun K hK => ?_) AllReadyH.nil
       go_simp
       refine hK.out _ _ trivial (fun hHeld => ?_)
       clear hK K
       refine wpAnyH_done (by kernel_rfl) ?_ _
       have hj5 := HJ2.out.nextG (G2 := fun _ => True) (g := g) HBLK.out HGO.out HFO.out HRF.out H5.out H6.out H7.out HK4.out HR4.out HG5.out HO5.out HNW.out (fun _ _ => trivial)
       have HJ5 := zz hj5
       have HTK := zz (takeKind_tok 5 (by decide) _ hj5.rd)
       clear hj5 y4 y5 y6 y7 c0 c0d q4
       go_wp2_with fail
       cases ht : takeKind E 5 m1 with
       | out => exact absurd ht (takeKind_ne E _ _)
       | bad k a =>
        rw [ht] at HTK
        refine HTK.out.mono ?_
        rintro e w7 hth
        have hth2 := Threw.own hth HLT.out HJ5.out.kp
        obtain ⟨b, rfl⟩ := threw_panic hth
        exact ⟨rfl, .bad k a, HEV.out _ (Ev.pure (fun e => by cases e) fun _ => by rw [ht]; rfl), hth2⟩
       | ok t m2 =>
        rw [ht] at HTK
        refine HTK.out.mono ?_
        rintro e w7 ⟨v7, rfl, _, hr7, hk7⟩
        have hm2 := takeKind_on ht
        have hj7 := HJ5.out.on (G2 := (fun r => Ev (fun f => Tr.program E f ⟨[], []⟩ n) r)) hk7 hr7 (fun r hr => HEV.out r (by rw [ht]; exact hr))
        have HJ7 := zz hj7
        have HM2 := zz hm2
        clear hj7 hr7 hk7 ht hm2
        go_wp2_with fail
        refine ⟨⟨m2, _, HJ7.out⟩, ?_⟩
        have h1 := HJ7.out.rd
        have h2 := HJ.out.rd
        rw [h1.pos, h2.pos]
        have := h1.hn
        have := HMM.out
        have := HM2.out
        omega
      ·go_simp
       refine hK.out _ _ trivial (fun hHeld => ?_)
       clear hK K
       refine wpAnyH_ready (rs := [1]) (by kernel_rfl) (by simp) ?_
       refine AllReadyH.cons (o := { dst := some 18, op := _, type := _, pos := _, after := _, guard := _ }) rfl (fun K hK => ?_) AllReadyH.nil
       go_simp
       refine hK.out _ _ trivial (fun hHeld => ?_)
       clear hK K
       refine wpAnyH_ready (rs := [5]) (by kernel_rfl) (by simp) ?_
       refine AllReadyH.cons (o := { dst := some 22, op := _, type := _, pos := _, after := _, guard := _ }) rfl (fun K hK => ?_) AllReadyH.nil
       refine step_appendX rfl (.tmp 18) (.tmp 21) 23 64 rfl iG (.agg #[.string ByteArray.empty, .int .i64 0]) 2 24 Tryz.underlying23 hiG hzG0 hzG1 hzG2 rfl (by decide) wl.heap.size (.slice ao0 src.globals.length cap0) src.globals.length _ (World.ownsRow.alloc HOW.out _) HML.out HBY.out (by have := HSZ.out; simp; omega) ⟨w4.heap.size, 0, none⟩ _ rfl HCN.out HH1.out (by simp [Act.eval]) (by simp [Act.eval]) ?_
       intro ao' cap' w5 hown5 hgrow5 hnew
       have HNW : Hid ((Value.slice ao' (src.globals.length + 1) cap').ownBlock = (Value.slice ao0 src.globals.length cap0).ownBlock \/ (Value.slice ao' (src.globals.length + 1) cap').ownBlock = some (w4.heap.size + 1)) := zz (by simpa using hnew)
       clear hnew
       have hk5 : Keeps (fun b => (Value.slice ao0 src.globals.length cap0).ownBlock = some b) w4 w5 := ((Keeps.refl (fun b => (Value.slice ao0 src.globals.length cap0).ownBlock = some b) w4).alloc _).trans' (Keeps.of_grownBy hgrow5 (fun k _ e => e)) (fun _ _ e => e)
       have hnb : ¬ (Value.slice ao0 src.globals.length cap0).ownBlock = some (w.heap.size + 1) := fun e => by have := (own_ge HOW.out _ e).1; have := HSZL.out; omega
       have y6 : w5.cell? ⟨w.heap.size + 1, 0, none⟩ = some (.slice ao0 src.globals.length cap0) := hk5.cell_of y4 hnb
       have y7 : w5.frozen? ⟨w.heap.size + 1, 0, none⟩ = false := by rw [hk5.frozen (p := ⟨w.heap.size + 1, 0, none⟩) q4 hnb]; exact y5
       have HO5 := zz hown5
       have HG5 := zz hgrow5
       clear hown5 hgrow5 hk5 hnb
       refine hK.out _ _ trivial (fun hHeld => ?_)
       clear hK K
       try simp only [Act.put, List.setIfInBounds_toArray, List.set_cons_zero, List.set_cons_succ]
       refine tk 6 23 (.pointer (some ⟨w.heap.size + 1, 0, none⟩)) rfl (.inl ⟨by rfl, ?_⟩) hHeld ?_
       ·intro W9 hSW; (try dsimp only at hSW); go_simp
       try simp only [Act.put, List.setIfInBounds_toArray, List.set_cons_zero, List.set_cons_succ]
       refine wpAnyH_ready (rs := [7]) (by kernel_rfl) (by simp) ?_
       refine AllReadyH.cons (o := { dst := none, op := _, type := _, pos := _, after := _, guard := _ }) rfl (fun K hK => ?_) AllReadyH.nil
       go_simp
       refine hK.out _ _ trivial (fun hHeld => ?_)
       clear hK K
       refine wpAnyH_done (by kernel_rfl) ?_ _
       have hj5 := HJ2.out.nextG (G2 := fun _ => True) (g := g) HBLK.out HGO.out HFO.out HRF.out H5.out H6.out H7.out HK4.out HR4.out HG5.out HO5.out HNW.out (fun _ _ => trivial)
       have HJ5 := zz hj5
       have HTK := zz (takeKind_tok 5 (by decide) _ hj5.rd)
       clear hj5 y4 y5 y6 y7 c0 c0d q4
       go_wp2_with fail
       cases ht : takeKind E 5 m1 with
       | out => exact absurd ht (takeKind_ne E _ _)
       | bad k a =>
        rw [ht] at HTK
        refine HTK.out.mono ?_
        rintro e w7 hth
        have hth2 := Threw.own hth HLT.out HJ5.out.kp
        obtain ⟨b, rfl⟩ := threw_panic hth
        exact ⟨rfl, .bad k a, HEV.out _ (Ev.pure (fun e => by cases e) fun _ => by rw [ht]; rfl), hth2⟩
       | ok t m2 =>
        rw [ht] at HTK
        refine HTK.out.mono ?_
        rintro e w7 ⟨v7, rfl, _, hr7, hk7⟩
        have hm2 := takeKind_on ht
        have hj7 := HJ5.out.on (G2 := (fun r => Ev (fun f => Tr.program E f ⟨[], []⟩ n) r)) hk7 hr7 (fun r hr => HEV.out r (by rw [ht]; exact hr))
        have HJ7 := zz hj7
        have HM2 := zz hm2
        clear hj7 hr7 hk7 ht hm2
        go_wp2_with fail
        refine ⟨⟨m2, _, HJ7.out⟩, ?_⟩
        have h1 := HJ7.out.rd
        have h2 := HJ.out.rd
        rw [h1.pos, h2.pos]
        have := h1.hn
        have := HMM.out
        have := HM2.out
        omega
   ·rw [decide_eq_false hv] at HI
    have HV := zz hv
    clear hv
    refine HI.out.mono ?_
    rintro e w3 ⟨rfl, hb3⟩
    have hj3 := HJ1.out.on (G2 := (fun r => Ev (fun f => Tr.program E f ⟨[], []⟩ n) r)) (Keeps.of_new hb3) (HJ1.out.rd.fresh hb3) HJ.out.ev
    have HJ3 := zz hj3
    have HIS := is_any ⟨#[102, 117, 110, 99]⟩ w3 hj3.rd
    rw [e102] at HIS
    have HI2 := zz HIS
    clear hb3 hj3 HIS HI
    go_wp2_with fail
    by_cases hf : (pk E m).text = tFunc
    ·rw [decide_eq_true hf] at HI2
     have HF := zz hf
     clear hf
     refine HI2.out.mono ?_
     rintro e w2 ⟨rfl, hb2⟩
     have hj2 := HJ3.out.on (G2 := (fun r => Ev (fun f => Tr.program E f ⟨[], []⟩ n) r)) (Keeps.of_new hb2) (HJ3.out.rd.fresh hb2) HJ.out.ev
     have HJ2 := zz hj2
     clear hb2 hj2
     obtain ⟨gv, fv, fvals, hblk, hgo, hfo, hrf, h5, h6, h7⟩ := HJ2.out.row
     have hform : ∃ ao cap, fv = .slice ao src.funcs.length cap := by
      rcases hfo.2 with ⟨e1, e2⟩ | ⟨g, cap, cur, e1, _⟩
      ·exact ⟨none, 0, by rw [e1, e2]⟩
      ·exact ⟨_, _, e1⟩
     obtain ⟨ao0, cap0, rfl⟩ := hform
     have c0 := hblk.at_ 1 _ rfl
     have HBLK := zz hblk
     have HGO := zz hgo
     have HFO := zz hfo
     have HRF := zz hrf
     have H5 := zz h5
     have H6 := zz h6
     have H7 := zz h7
     have HLO := zz HJ2.out.lo
     clear hblk hgo hfo hrf h5 h6 h7
     by_cases h8 : 12 <= src.funcs.length
     ·have HRM : Hid (Calls Tryz.prog 59 #[.pointer (some ⟨rb, 0, none⟩), .int .i64 (src.funcs.length : Nat), .int .i64 12] w2 fun e w' => Threw w2 w' rb 4 (pk E m).at_ e) := zz ((hasRoom_tok src.funcs.length 12 w2 HJ2.out.rd).mono fun e w' h => by rw [if_pos h8] at h; exact h)
      have H8 := zz h8
      clear h8
      go_wp2_with fail
      refine HRM.out.mono ?_
      rintro e w3 hth
      have hth2 := hth.own HLT.out HJ2.out.kp
      obtain ⟨b, rfl⟩ := threw_panic hth
      refine ⟨rfl, .bad 4 (pk E m).at_, HJ.out.ev _ (Ev.now (fun e => by cases e) fun f => ?_), hth2⟩
      rw [program_eq, if_neg HN.out, if_neg HV.out, if_pos HF.out, if_pos H8.out]; rfl
     ·have HRM : Hid (Calls Tryz.prog 59 #[.pointer (some ⟨rb, 0, none⟩), .int .i64 (src.funcs.length : Nat), .int .i64 12] w2 fun e w' => e = .returned (.tuple #[]) /\ w2 = w') := zz ((hasRoom_tok src.funcs.length 12 w2 HJ2.out.rd).mono fun e w' h => by rw [if_neg h8] at h; exact h)
      have HSEQ : Hid (∀ r, Ev (fun f => (Tr.function E f m).bind fun g m1 => (takeKind E 5 m1).bind fun _ m2 => Tr.program E f ⟨src.globals, src.funcs ++ [g]⟩ m2) r -> Ev (fun f => Tr.program E f ⟨[], []⟩ n) r) := zz fun r hr => HJ.out.ev _ (Ev.step (h := fun f => (Tr.function E f m).bind fun g m1 => (takeKind E 5 m1).bind fun _ m2 => Tr.program E f ⟨src.globals, src.funcs ++ [g]⟩ m2) (fun f => by
       rw [program_eq, if_neg HN.out, if_neg HV.out, if_pos HF.out, if_neg h8]) hr)
      have hl8 : src.funcs.length <= 12 := by omega
      have HML : Hid (src.funcs.length + 1 <= maxLen) := zz (by unfold maxLen; omega)
      have HBY : Hid ((src.funcs.length + 1) * 80 <= 140737488355328) := zz (by omega)
      clear h8 hl8
      go_wp2_with fail
      refine HRM.out.mono ?_
      rintro e w3 ⟨rfl, rfl⟩
      go_wp2_with fail
      change Code.wp _ _ _ _ _
      have c0d : w2.drew.cell? ⟨w.heap.size + 1, 1, none⟩ = some (.slice ao0 src.funcs.length cap0) := c0
      have HRD := zz (HJ2.out.rd.fresh (Below.drew (Below.refl _ _)))
      have HCC := zz (function_any w2.drew HRD.out (HJ2.out.env.fresh (Below.drew (Below.refl _ _))))
      refine wp_region_held_drew (S := fun _ => True) (by kernel_rfl) trivial (fun hHeld => ?_)
      refine tk 0 32 (.pointer (some ⟨w.heap.size + 1, 1, none⟩)) rfl (.inl ⟨by rfl, ?_⟩) hHeld ?_
      ·intro W9 hSW; (try dsimp only at hSW); go_simp
      try simp only [Act.put, List.setIfInBounds_toArray, List.set_cons_zero, List.set_cons_succ]
      refine tk 2 34 (.pointer (some ⟨rb, 0, none⟩)) rfl (.inl ⟨by rfl, ?_⟩) hHeld ?_
      ·intro W9 hSW; (try dsimp only at hSW); go_simp
      try simp only [Act.put, List.setIfInBounds_toArray, List.set_cons_zero, List.set_cons_succ]
      refine wpAnyH_ready (rs := [1, 3]) (by kernel_rfl) (by simp) ?_
      refine AllReadyH.cons (o := { dst := some 33, op := _, type := _, pos := _, after := _, guard := _ }) rfl (fun K hK => ?_) (AllReadyH.cons (o := { dst := some 35, op := _, type := _, pos := _, after := _, guard := _ }) rfl (fun K hK => ?_) AllReadyH.nil)
      ·go_simp
       refine hK.out _ _ trivial (fun hHeld => ?_)
       clear hK K
       refine wpAnyH_ready (rs := [3]) (by kernel_rfl) (by simp) ?_
       refine AllReadyH.cons (o := { dst := some 35, op := _, type := _, pos := _, after := _, guard := _ }) rfl (fun K hK => ?_) AllReadyH.nil
       go_simp
       go_at_call 61
       refine HCC.out.mono ?_
       rintro e w4 ⟨r, hev, hsay⟩
       rcases r with _ | ⟨k, a⟩ | ⟨g, m1⟩
       ·exact hsay.elim
       ·have hsay' : Threw _ w4 rb k a e := hsay
        obtain ⟨b, rfl⟩ := threw_panic hsay'
        exact ⟨rfl, .bad k a, HSEQ.out _ (Ev.bad hev), hsay'.own HLT.out HJ2.out.kp.drew⟩
       have HEV : Hid (∀ r, Ev (fun f => (takeKind E 5 m1).bind fun _ m2 => Tr.program E f ⟨src.globals, src.funcs ++ [g]⟩ m2) r -> Ev (fun f => Tr.program E f ⟨[], []⟩ n) r) := zz fun r hr => HSEQ.out _ (Ev.then hev hr)
       have HMM : Hid (m < m1) := zz (ev_fun_on hev)
       obtain ⟨v4, rfl, ⟨vs, rfl, hfc⟩, hr4, hk4⟩ := hsay
       have hfc' := hfc
       obtain ⟨pv, bv, e2, hpf, hbf⟩ := hfc'
       obtain ⟨pa, pc, rfl⟩ := hpf.form
       obtain ⟨la, ll, lc, rfl⟩ := hbf.1.form
       have HFC := zz hfc
       clear hfc hpf hbf hev
       unfold fu1 at e2
       have hkw : Keeps (fun b => b = rb) w2 w4 := ((Keeps.refl (fun b => b = rb) w2).drew).trans hk4
       have hb4 := HBLK.out.keeps hkw (fun e => by have := HLO.out; have : w.heap.size + 1 = rb := e; omega)
       have y4 := hb4.at_ 1 _ rfl
       have y5 := hb4.free 1
       have q4 : w.heap.size + 1 < w4.heap.size := hb4.lt
       have hown4 : w4.ownsRow wl.heap.size 45 5 (.slice ao0 src.funcs.length cap0) src.funcs.length fvals := hkw.row HFO.out (fun b e e2 => by have := (own_ge HFO.out b e).1; have := HLO.out; have : b = rb := e2; omega)
       have hszw : wl.heap.size <= w4.heap.size := Nat.le_trans HLO.out.2.2.2 hkw.size
       have HH1 : Hid (∀ x ∈ vs, x.oneCell' = true) := zz (fun (x : Value) hx => by rw [e2] at hx; simp at hx; rcases hx with rfl | rfl | rfl | rfl | rfl <;> rfl)
       have HCN := zz (cells_new w4 vs 45)
       have HOW := zz hown4
       have HR4 := zz hr4
       have HK4 := zz hkw
       have HSZ := zz hszw
       clear hr4 hk4 hkw hown4 hszw hb4
       subst e2
       refine hK.out _ _ trivial (fun hHeld => ?_)
       clear hK K
       refine wpAnyH_ready (rs := [4]) (by kernel_rfl) (by simp) ?_
       refine AllReadyH.cons (o := { dst := some 36, op := _, type := _, pos := _, after := _, guard := _ }) rfl (fun K hK => ?_) AllReadyH.nil
       go_simp
       refine hK.out _ _ trivial (fun hHeld => ?_)
       clear hK K
       refine wpAnyH_ready (rs := [5]) (by kernel_rfl) (by simp) ?_
       refine AllReadyH.cons (o := { dst := some 37, op := _, type := _, pos := _, after := _, guard := _ }) rfl (fun K hK => ?_) AllReadyH.nil
       refine step_appendX rfl (.tmp 33) (.tmp 36) 24 45 rfl iF (.agg #[.string ByteArray.empty, .int .i64 0, .slice none 0 0, .int .i64 0, .slice none 0 0]) 5 80 Tryz.underlying24 hiF hzF0 hzF1 hzF2 rfl (by decide) wl.heap.size (.slice ao0 src.funcs.length cap0) src.funcs.length _ (World.ownsRow.alloc HOW.out _) HML.out HBY.out (by have := HSZ.out; simp; omega) ⟨w4.heap.size, 0, none⟩ _ rfl HCN.out HH1.out (by simp [Act.eval]) (by simp [Act.eval]) ?_
       intro ao' cap' w5 hown5 hgrow5 hnew
       have HNW : Hid ((Value.slice ao' (src.funcs.length + 1) cap').ownBlock = (Value.slice ao0 src.funcs.length cap0).ownBlock \/ (Value.slice ao' (src.funcs.length + 1) cap').ownBlock = some (w4.heap.size + 1)) := zz (by simpa using hnew)
       clear hnew
       have hk5 : Keeps (fun b => (Value.slice ao0 src.funcs.length cap0).ownBlock = some b) w4 w5 := ((Keeps.refl (fun b => (Value.slice ao0 src.funcs.length cap0).ownBlock = some b) w4).alloc _).trans' (Keeps.of_grownBy hgrow5 (fun k _ e => e)) (fun _ _ e => e)
       have hnb : ¬ (Value.slice ao0 src.funcs.length cap0).ownBlock = some (w.heap.size + 1) := fun e => by have := (own_ge HOW.out _ e).1; have := HSZL.out; omega
       have y6 : w5.cell? ⟨w.heap.size + 1, 1, none⟩ = some (.slice ao0 src.funcs.length cap0) := hk5.cell_of y4 hnb
       have y7 : w5.frozen? ⟨w.heap.size + 1, 1, none⟩ = false := by rw [hk5.frozen (p := ⟨w.heap.size + 1, 1, none⟩) q4 hnb]; exact y5
       have HO5 := zz hown5
       have HG5 := zz hgrow5
       clear hown5 hgrow5 hk5 hnb
       refine hK.out _ _ trivial (fun hHeld => ?_)
       clear hK K
       try simp only [Act.put, List.setIfInBounds_toArray, List.set_cons_zero, List.set_cons_succ]
       refine tk 6 38 (.pointer (some ⟨w.heap.size + 1, 1, none⟩)) rfl (.inl ⟨by rfl, ?_⟩) hHeld ?_
       ·intro W9 hSW; (try dsimp only at hSW); go_simp
       try simp only [Act.put, List.setIfInBounds_toArray, List.set_cons_zero, List.set_cons_succ]
       refine wpAnyH_ready (rs := [7]) (by kernel_rfl) (by simp) ?_
       refine AllReadyH.cons (o := { dst := none, op := _, type := _, pos := _, after := _, guard := _ }) rfl (fun K hK => ?_) AllReadyH.nil
       go_simp
       refine hK.out _ _ trivial (fun hHeld => ?_)
       clear hK K
       refine wpAnyH_done (by kernel_rfl) ?_ _
       have hj5 := HJ2.out.nextF (G2 := fun _ => True) (g := g) HBLK.out HGO.out HFO.out HRF.out H5.out H6.out H7.out HK4.out HR4.out HFC.out HG5.out HO5.out HNW.out (fun _ _ => trivial)
       have HJ5 := zz hj5
       have HTK := zz (takeKind_tok 5 (by decide) _ hj5.rd)
       clear hj5 y4 y5 y6 y7 c0 c0d q4
       go_wp2_with fail
       cases ht : takeKind E 5 m1 with
       | out => exact absurd ht (takeKind_ne E _ _)
       | bad k a =>
        rw [ht] at HTK
        refine HTK.out.mono ?_
        rintro e w7 hth
        have hth2 := Threw.own hth HLT.out HJ5.out.kp
        obtain ⟨b, rfl⟩ := threw_panic hth
        exact ⟨rfl, .bad k a, HEV.out _ (Ev.pure (fun e => by cases e) fun _ => by rw [ht]; rfl), hth2⟩
       | ok t m2 =>
        rw [ht] at HTK
        refine HTK.out.mono ?_
        rintro e w7 ⟨v7, rfl, _, hr7, hk7⟩
        have hm2 := takeKind_on ht
        have hj7 := HJ5.out.on (G2 := (fun r => Ev (fun f => Tr.program E f ⟨[], []⟩ n) r)) hk7 hr7 (fun r hr => HEV.out r (by rw [ht]; exact hr))
        have HJ7 := zz hj7
        have HM2 := zz hm2
        clear hj7 hr7 hk7 ht hm2
        go_wp2_with fail
        refine ⟨⟨m2, _, HJ7.out⟩, ?_⟩
        have h1 := HJ7.out.rd
        have h2 := HJ.out.rd
        rw [h1.pos, h2.pos]
        have := h1.hn
        have := HMM.out
        have := HM2.out
        omega
      ·go_simp
       go_at_call 61
       refine HCC.out.mono ?_
       rintro e w4 ⟨r, hev, hsay⟩
       rcases r with _ | ⟨k, a⟩ | ⟨g, m1⟩
       ·exact hsay.elim
       ·have hsay' : Threw _ w4 rb k a e := hsay
        obtain ⟨b, rfl⟩ := threw_panic hsay'
        exact ⟨rfl, .bad k a, HSEQ.out _ (Ev.bad hev), hsay'.own HLT.out HJ2.out.kp.drew⟩
       have HEV : Hid (∀ r, Ev (fun f => (takeKind E 5 m1).bind fun _ m2 => Tr.program E f ⟨src.globals, src.funcs ++ [g]⟩ m2) r -> Ev (fun f => Tr.program E f ⟨[], []⟩ n) r) := zz fun r hr => HSEQ.out _ (Ev.then hev hr)
       have HMM : Hid (m < m1) := zz (ev_fun_on hev)
       obtain ⟨v4, rfl, ⟨vs, rfl, hfc⟩, hr4, hk4⟩ := hsay
       have hfc' := hfc
       obtain ⟨pv, bv, e2, hpf, hbf⟩ := hfc'
       obtain ⟨pa, pc, rfl⟩ := hpf.form
       obtain ⟨la, ll, lc, rfl⟩ := hbf.1.form
       have HFC := zz hfc
       clear hfc hpf hbf hev
       unfold fu1 at e2
       have hkw : Keeps (fun b => b = rb) w2 w4 := ((Keeps.refl (fun b => b = rb) w2).drew).trans hk4
       have hb4 := HBLK.out.keeps hkw (fun e => by have := HLO.out; have : w.heap.size + 1 = rb := e; omega)
       have y4 := hb4.at_ 1 _ rfl
       have y5 := hb4.free 1
       have q4 : w.heap.size + 1 < w4.heap.size := hb4.lt
       have hown4 : w4.ownsRow wl.heap.size 45 5 (.slice ao0 src.funcs.length cap0) src.funcs.length fvals := hkw.row HFO.out (fun b e e2 => by have := (own_ge HFO.out b e).1; have := HLO.out; have : b = rb := e2; omega)
       have hszw : wl.heap.size <= w4.heap.size := Nat.le_trans HLO.out.2.2.2 hkw.size
       have HH1 : Hid (∀ x ∈ vs, x.oneCell' = true) := zz (fun (x : Value) hx => by rw [e2] at hx; simp at hx; rcases hx with rfl | rfl | rfl | rfl | rfl <;> rfl)
       have HCN := zz (cells_new w4 vs 45)
       have HOW := zz hown4
       have HR4 := zz hr4
       have HK4 := zz hkw
       have HSZ := zz hszw
       clear hr4 hk4 hkw hown4 hszw hb4
       subst e2
       refine hK.out _ _ trivial (fun hHeld => ?_)
       clear hK K
       refine wpAnyH_ready (rs := [1, 4]) (by kernel_rfl) (by simp) ?_
       refine AllReadyH.cons (o := { dst := some 33, op := _, type := _, pos := _, after := _, guard := _ }) rfl (fun K hK => ?_) (AllReadyH.cons (o := { dst := some 36, op := _, type := _, pos := _, after := _, guard := _ }) rfl (fun K hK => ?_) AllReadyH.nil)
       ·go_simp
        refine hK.out _ _ trivial (fun hHeld => ?_)
        clear hK K
        refine wpAnyH_ready (rs := [4]) (by kernel_rfl) (by simp) ?_
        refine AllReadyH.cons (o := { dst := some 36, op := _, type := _, pos := _, after := _, guard := _ }) rfl (fun K hK => ?_) AllReadyH.nil
        go_simp
        refine hK.out _ _ trivial (fun hHeld => ?_)
        clear hK K
        refine wpAnyH_ready (rs := [5]) (by kernel_rfl) (by simp) ?_
        refine AllReadyH.cons (o := { dst := some 37, op := _, type := _, pos := _, after := _, guard := _ }) rfl (fun K hK => ?_) AllReadyH.nil
        refine step_appendX rfl (.tmp 33) (.tmp 36) 24 45 rfl iF (.agg #[.string ByteArray.empty, .int .i64 0, .slice none 0 0, .int .i64 0, .slice none 0 0]) 5 80 Tryz.underlying24 hiF hzF0 hzF1 hzF2 rfl (by decide) wl.heap.size (.slice ao0 src.funcs.length cap0) src.funcs.length _ (World.ownsRow.alloc HOW.out _) HML.out HBY.out (by have := HSZ.out; simp; omega) ⟨w4.heap.size, 0, none⟩ _ rfl HCN.out HH1.out (by simp [Act.eval]) (by simp [Act.eval]) ?_
        intro ao' cap' w5 hown5 hgrow5 hnew
        have HNW : Hid ((Value.slice ao' (src.funcs.length + 1) cap').ownBlock = (Value.slice ao0 src.funcs.length cap0).ownBlock \/ (Value.slice ao' (src.funcs.length + 1) cap').ownBlock = some (w4.heap.size + 1)) := zz (by simpa using hnew)
        clear hnew
        have hk5 : Keeps (fun b => (Value.slice ao0 src.funcs.length cap0).ownBlock = some b) w4 w5 := ((Keeps.refl (fun b => (Value.slice ao0 src.funcs.length cap0).ownBlock = some b) w4).alloc _).trans' (Keeps.of_grownBy hgrow5 (fun k _ e => e)) (fun _ _ e => e)
        have hnb : ¬ (Value.slice ao0 src.funcs.length cap0).ownBlock = some (w.heap.size + 1) := fun e => by have := (own_ge HOW.out _ e).1; have := HSZL.out; omega
        have y6 : w5.cell? ⟨w.heap.size + 1, 1, none⟩ = some (.slice ao0 src.funcs.length cap0) := hk5.cell_of y4 hnb
        have y7 : w5.frozen? ⟨w.heap.size + 1, 1, none⟩ = false := by rw [hk5.frozen (p := ⟨w.heap.size + 1, 1, none⟩) q4 hnb]; exact y5
        have HO5 := zz hown5
        have HG5 := zz hgrow5
        clear hown5 hgrow5 hk5 hnb
        refine hK.out _ _ trivial (fun hHeld => ?_)
        clear hK K
        try simp only [Act.put, List.setIfInBounds_toArray, List.set_cons_zero, List.set_cons_succ]
        refine tk 6 38 (.pointer (some ⟨w.heap.size + 1, 1, none⟩)) rfl (.inl ⟨by rfl, ?_⟩) hHeld ?_
        ·intro W9 hSW; (try dsimp only at hSW); go_simp
        try simp only [Act.put, List.setIfInBounds_toArray, List.set_cons_zero, List.set_cons_succ]
        refine wpAnyH_ready (rs := [7]) (by kernel_rfl) (by simp) ?_
        refine AllReadyH.cons (o := { dst := none, op := _, type := _, pos := _, after := _, guard := _ }) rfl (fun K hK => ?_) AllReadyH.nil
        go_simp
        refine hK.out _ _ trivial (fun hHeld => ?_)
        clear hK K
        refine wpAnyH_done (by kernel_rfl) ?_ _
        have hj5 := HJ2.out.nextF (G2 := fun _ => True) (g := g) HBLK.out HGO.out HFO.out HRF.out H5.out H6.out H7.out HK4.out HR4.out HFC.out HG5.out HO5.out HNW.out (fun _ _ => trivial)
        have HJ5 := zz hj5
        have HTK := zz (takeKind_tok 5 (by decide) _ hj5.rd)
        clear hj5 y4 y5 y6 y7 c0 c0d q4
        go_wp2_with fail
        cases ht : takeKind E 5 m1 with
        | out => exact absurd ht (takeKind_ne E _ _)
        | bad k a =>
         rw [ht] at HTK
         refine HTK.out.mono ?_
         rintro e w7 hth
         have hth2 := Threw.own hth HLT.out HJ5.out.kp
         obtain ⟨b, rfl⟩ := threw_panic hth
         exact ⟨rfl, .bad k a, HEV.out _ (Ev.pure (fun e => by cases e) fun _ => by rw [ht]; rfl), hth2⟩
        | ok t m2 =>
         rw [ht] at HTK
         refine HTK.out.mono ?_
         rintro e w7 ⟨v7, rfl, _, hr7, hk7⟩
         have hm2 := takeKind_on ht
         have hj7 := HJ5.out.on (G2 := (fun r => Ev (fun f => Tr.program E f ⟨[], []⟩ n) r)) hk7 hr7 (fun r hr => HEV.out r (by rw [ht]; exact hr))
         have HJ7 := zz hj7
         have HM2 := zz hm2
         clear hj7 hr7 hk7 ht hm2
         go_wp2_with fail
         refine ⟨⟨m2, _, HJ7.out⟩, ?_⟩
         have h1 := HJ7.out.rd
         have h2 := HJ.out.rd
         rw [h1.pos, h2.pos]
         have := h1.hn
         have := HMM.out
         have := HM2.out
         omega
       ·go_simp
        refine hK.out _ _ trivial (fun hHeld => ?_)
        clear hK K
        refine wpAnyH_ready (rs := [1]) (by kernel_rfl) (by simp) ?_
        refine AllReadyH.cons (o := { dst := some 33, op := _, type := _, pos := _, after := _, guard := _ }) rfl (fun K hK => ?_) AllReadyH.nil
        go_simp
        refine hK.out _ _ trivial (fun hHeld => ?_)
        clear hK K
        refine wpAnyH_ready (rs := [5]) (by kernel_rfl) (by simp) ?_
        refine AllReadyH.cons (o := { dst := some 37, op := _, type := _, pos := _, after := _, guard := _ }) rfl (fun K hK => ?_) AllReadyH.nil
        refine step_appendX rfl (.tmp 33) (.tmp 36) 24 45 rfl iF (.agg #[.string ByteArray.empty, .int .i64 0, .slice none 0 0, .int .i64 0, .slice none 0 0]) 5 80 Tryz.underlying24 hiF hzF0 hzF1 hzF2 rfl (by decide) wl.heap.size (.slice ao0 src.funcs.length cap0) src.funcs.length _ (World.ownsRow.alloc HOW.out _) HML.out HBY.out (by have := HSZ.out; simp; omega) ⟨w4.heap.size, 0, none⟩ _ rfl HCN.out HH1.out (by simp [Act.eval]) (by simp [Act.eval]) ?_
        intro ao' cap' w5 hown5 hgrow5 hnew
        have HNW : Hid ((Value.slice ao' (src.funcs.length + 1) cap').ownBlock = (Value.slice ao0 src.funcs.length cap0).ownBlock \/ (Value.slice ao' (src.funcs.length + 1) cap').ownBlock = some (w4.heap.size + 1)) := zz (by simpa using hnew)
        clear hnew
        have hk5 : Keeps (fun b => (Value.slice ao0 src.funcs.length cap0).ownBlock = some b) w4 w5 := ((Keeps.refl (fun b => (Value.slice ao0 src.funcs.length cap0).ownBlock = some b) w4).alloc _).trans' (Keeps.of_grownBy hgrow5 (fun k _ e => e)) (fun _ _ e => e)
        have hnb : ¬ (Value.slice ao0 src.funcs.length cap0).ownBlock = some (w.heap.size + 1) := fun e => by have := (own_ge HOW.out _ e).1; have := HSZL.out; omega
        have y6 : w5.cell? ⟨w.heap.size + 1, 1, none⟩ = some (.slice ao0 src.funcs.length cap0) := hk5.cell_of y4 hnb
        have y7 : w5.frozen? ⟨w.heap.size + 1, 1, none⟩ = false := by rw [hk5.frozen (p := ⟨w.heap.size + 1, 1, none⟩) q4 hnb]; exact y5
        have HO5 := zz hown5
        have HG5 := zz hgrow5
        clear hown5 hgrow5 hk5 hnb
        refine hK.out _ _ trivial (fun hHeld => ?_)
        clear hK K
        try simp only [Act.put, List.setIfInBounds_toArray, List.set_cons_zero, List.set_cons_succ]
        refine tk 6 38 (.pointer (some ⟨w.heap.size + 1, 1, none⟩)) rfl (.inl ⟨by rfl, ?_⟩) hHeld ?_
        ·intro W9 hSW; (try dsimp only at hSW); go_simp
        try simp only [Act.put, List.setIfInBounds_toArray, List.set_cons_zero, List.set_cons_succ]
        refine wpAnyH_ready (rs := [7]) (by kernel_rfl) (by simp) ?_
        refine AllReadyH.cons (o := { dst := none, op := _, type := _, pos := _, after := _, guard := _ }) rfl (fun K hK => ?_) AllReadyH.nil
        go_simp
        refine hK.out _ _ trivial (fun hHeld => ?_)
        clear hK K
        refine wpAnyH_done (by kernel_rfl) ?_ _
        have hj5 := HJ2.out.nextF (G2 := fun _ => True) (g := g) HBLK.out HGO.out HFO.out HRF.out H5.out H6.out H7.out HK4.out HR4.out HFC.out HG5.out HO5.out HNW.out (fun _ _ => trivial)
        have HJ5 := zz hj5
        have HTK := zz (takeKind_tok 5 (by decide) _ hj5.rd)
        clear hj5 y4 y5 y6 y7 c0 c0d q4
        go_wp2_with fail
        cases ht : takeKind E 5 m1 with
        | out => exact absurd ht (takeKind_ne E _ _)
        | bad k a =>
         rw [ht] at HTK
         refine HTK.out.mono ?_
         rintro e w7 hth
         have hth2 := Threw.own hth HLT.out HJ5.out.kp
         obtain ⟨b, rfl⟩ := threw_panic hth
         exact ⟨rfl, .bad k a, HEV.out _ (Ev.pure (fun e => by cases e) fun _ => by rw [ht]; rfl), hth2⟩
        | ok t m2 =>
         rw [ht] at HTK
         refine HTK.out.mono ?_
         rintro e w7 ⟨v7, rfl, _, hr7, hk7⟩
         have hm2 := takeKind_on ht
         have hj7 := HJ5.out.on (G2 := (fun r => Ev (fun f => Tr.program E f ⟨[], []⟩ n) r)) hk7 hr7 (fun r hr => HEV.out r (by rw [ht]; exact hr))
         have HJ7 := zz hj7
         have HM2 := zz hm2
         clear hj7 hr7 hk7 ht hm2
         go_wp2_with fail
         refine ⟨⟨m2, _, HJ7.out⟩, ?_⟩
         have h1 := HJ7.out.rd
         have h2 := HJ.out.rd
         rw [h1.pos, h2.pos]
         have := h1.hn
         have := HMM.out
         have := HM2.out
         omega
    ·rw [decide_eq_false hf] at HI2
     have HF := zz hf
     clear hf
     refine HI2.out.mono ?_
     rintro e w2 ⟨rfl, hb2⟩
     have hj2 := HJ3.out.on (G2 := (fun r => Ev (fun f => Tr.program E f ⟨[], []⟩ n) r)) (Keeps.of_new hb2) (HJ3.out.rd.fresh hb2) HJ.out.ev
     have HJ2 := zz hj2
     have HFA := zz (fail_any 3 w2 hj2.rd)
     clear hb2 hj2
     go_wp2_with fail
     refine HFA.out.mono ?_
     rintro e w4 hth
     have hth2 := hth.own HLT.out HJ2.out.kp
     obtain ⟨b, rfl⟩ := threw_panic hth
     refine ⟨rfl, .bad 3 (pk E m).at_, HJ.out.ev _ (Ev.now (fun e => by cases e) fun f => ?_), hth2⟩
     rw [program_eq, if_neg HN.out, if_neg HV.out, if_neg HF.out]; rfl
theorem thrown_isAt (p : Addr) (w : World) : (Instr.typeAssert (.iface 107 (.pointer (some p))) 20 107 true).run Tryz.prog w = .ok (.tuple #[.pointer (some p), .bool true]) w := by kernel_rfl
theorem thrown_some (p : Addr) (w : World) : (binOp BinOp.neq 20 (.iface 107 (.pointer (some p))) .nilIface).run Tryz.prog w = .ok (.bool true) w := by kernel_rfl
theorem thrown_none (w : World) : (binOp BinOp.neq 20 .nilIface .nilIface).run Tryz.prog w = .ok (.bool false) w := by kernel_rfl
theorem caught_at (b : Nat) (w : World) : Calls Tryz.prog 31 #[.iface 107 (.pointer (some ⟨b, 0, none⟩))] w fun e w' => e = .returned (.iface 107 (.pointer (some ⟨b, 0, none⟩))) /\ w = w' := by
 have hta := thrown_isAt ⟨b, 0, none⟩
 go_enter Tryz.func31, Tryz.ntmps31
 go_wp2_with fail
 go_ret
 exact ⟨rfl, rfl⟩
theorem parseIdle (p q : Addr) (w : World) :
  CallsD Tryz.prog 30 #[.pointer (some p), .pointer (some q)] .returning w fun e u' w' => e = .returned (.tuple #[]) /\ u' = .returning /\ w' = w := by
 refine callsD_of_wpS Tryz.func30 rfl fun c₀ cs hu => ?_
 apply wpS_seq
 apply wpS_region
 simp [wpOpsS, go_sem, recoverD, hu, Tryz.ntmps30, Exit.thenS]
 refine wpS_of_wp ?_
 change Code.wp _ _ _ { tmps := #[.pointer (some p), .pointer (some q), .nilIface, .nilIface, undef, undef, undef, undef, undef], defers := [] } _
 have hnn := thrown_none
 go_wp2_with fail
 clear hnn
 cases c₀
 simp_all [bodyPostS, results, Tryz.results30]
theorem parseCatch (p q b : Nat) (g0 g1 q0 : Value) (older : List PanicEntry) (w : World) (c0 : w.cell? ⟨p, 0, none⟩ = some g0) (c1 : w.cell? ⟨p, 1, none⟩ = some g1) (d0 : w.cell? ⟨q, 0, none⟩ = some q0) (z0 : w.frozen? ⟨p, 0, none⟩ = false) (z1 : w.frozen? ⟨p, 1, none⟩ = false) (y0 : w.frozen? ⟨q, 0, none⟩ = false) (hpq : p ≠ q) :
  CallsD Tryz.prog 30 #[.pointer (some ⟨p, 0, none⟩), .pointer (some ⟨q, 0, none⟩)] (.panicking ({ v := .iface 107 (.pointer (some ⟨b, 0, none⟩)), recovered := false } :: older)) w fun e u' w' =>
   e = .returned (.tuple #[]) /\ u' = .panicking ({ v := .iface 107 (.pointer (some ⟨b, 0, none⟩)), recovered := true } :: older) /\ w' = ((w.setCell ⟨p, 0, none⟩ (.slice none 0 0)).setCell ⟨p, 1, none⟩ (.slice none 0 0)).setCell ⟨q, 0, none⟩ (.iface 107 (.pointer (some ⟨b, 0, none⟩))) := by
 refine callsD_of_wpS Tryz.func30 rfl fun c₀ cs hu => ?_
 apply wpS_seq
 apply wpS_region
 simp [wpOpsS, go_sem, recoverD, hu, Tryz.ntmps30, Exit.thenS]
 refine wpS_of_wp ?_
 change Code.wp _ _ _ { tmps := #[.pointer (some ⟨p, 0, none⟩), .pointer (some ⟨q, 0, none⟩), .iface 107 (.pointer (some ⟨b, 0, none⟩)), .iface 107 (.pointer (some ⟨b, 0, none⟩)), undef, undef, undef, undef, undef], defers := [] } _
 have hnn := thrown_some ⟨b, 0, none⟩
 have HCA := zz (caught_at b w)
 go_wp2_with (go_at_call 31; refine HCA.out.mono ?_; rintro e w1 ⟨rfl, rfl⟩)
 simp [bodyPostS, results, Tryz.results30]
end Go.Proofs.YtjejcajnnbilmaaGreatDoor
namespace Go.Proofs.YtjejcajnnbilmaaGreatDoor
namespace Lx
end Lx
end Go.Proofs.YtjejcajnnbilmaaGreatDoor
namespace Go.Proofs.YtjejcajnnbilmaaGreatDoor
open Go.RowKit Lx Tr
variable {w w' : World} {rb n d dd : Nat} {tv : Value} {E : Env}
theorem atoi_digits (d : B) (h : ∀ b ∈ d, isDg b = true) (hne : d ≠ []) (hb : bigV d = false) : Lib.atoiAll d = .ok ((numV d : Nat) : Int) := by
 cases d with
 | nil => exact absurd rfl hne
 | cons c r =>
  have hc := h c (List.mem_cons_self ..)
  have hd : 48 <= c.toNat /\ c.toNat <= 57 := by simp [isDg] at hc; exact hc
  have hn : numV (c :: r) <= 9223372036854775807 := by
   unfold bigV at hb
   have := of_decide_eq_false hb
   omega
  have e : Lib.parseMag (c :: r) = .ok (numV (c :: r)) := by
   rw [<- Lib.parseUintB_64]
   have h2 := parseM_digits (c :: r) h 0 (by omega)
   unfold Lib.parseUintB
   rw [if_neg (by simp)]
   refine h2.trans ?_
   show (if numV (c :: r) <= 18446744073709551615 then _ else _) = _
   rw [if_pos (by omega)]
   rfl
  have h45 : ¬ c.toNat = 45 := by omega
  have h43 : ¬ (c.toNat = 43 \/ c.toNat = 45) := by omega
  unfold Lib.atoiAll
  simp only [if_neg h43]
  rw [e]
  simp only [h45, not_false_eq_true, true_and, false_and, if_false]
  rw [if_neg (by omega)]
theorem tok3 {l : B} {may : Bool} {n : Nat} (hl : l ≠ []) (h : stepV l may = .cut (.tok 3 n)) : n = digV l /\ bigV (l.take n) = false /\ 1 <= n := by
 obtain ⟨h1, _⟩ := step_tok hl h
 cases l with
 | nil => exact absurd rfl hl
 | cons b r =>
  rw [stepV_cons] at h
  split at h
  ·cases h
  split at h
  ·cases h
  split at h
  ·split at h <;> cases h
  ·have h' : cutV (b :: r) = .tok 3 n := by injection h
   have h2 : (if b = 59 then Cut.tok 5 1 else if isDg b then numCut (b :: r) else if 0 < letV (b :: r) then wordCut (b :: r) else sigCut (b :: r)) = .tok 3 n := h'
   by_cases q1 : b = 59
   ·rw [if_pos q1] at h2; cases h2
   rw [if_neg q1] at h2
   by_cases q2 : isDg b = true
   ·rw [if_pos q2] at h2
    unfold numCut at h2
    split at h2
    ·cases h2
    split at h2
    ·cases h2
    ·rename_i hb
     cases h2
     exact ⟨rfl, by simpa using hb, h1⟩
   rw [if_neg q2] at h2
   by_cases q3 : 0 < letV (b :: r)
   ·rw [if_pos q3] at h2
    unfold wordCut at h2
    split at h2
    ·cases h2
    split at h2 <;> cases h2
   ·rw [if_neg q3] at h2
    unfold sigCut at h2
    split at h2 <;> cases h2
theorem toks_ok : ∀ (l : B) (a : Nat) (may : Bool) (ts : List Tok), lx l a may = (ts, none) -> ts.length <= l.length + 1 /\ ∀ t ∈ ts, t.kind = 3 -> Lib.atoiAll t.text = .ok (numV t.text : Nat) /\ t.text.length <= l.length := by
 refine lx_induct (fun l _ _ ts => ts.length <= l.length + 1 /\ ∀ t ∈ ts, t.kind = 3 -> Lib.atoiAll t.text = .ok (numV t.text : Nat) /\ t.text.length <= l.length) ?_ ?_ ?_
 ·intro a may
  unfold endV
  split
  ·refine ⟨Nat.le_refl _, fun t ht hk => ?_⟩
   simp at ht
   subst ht
   cases hk
  ·exact ⟨Nat.zero_le _, fun t ht => by cases ht⟩
 ·intro l a may n ts hl hs h1 h2 _ ih
  rw [List.length_drop] at ih
  exact ⟨by omega, fun t ht hk => ⟨(ih.2 t ht hk).1, by have := (ih.2 t ht hk).2; omega⟩⟩
 ·intro l a may k n ts hl hs h1 h2 _ ih
  rw [List.length_drop] at ih
  refine ⟨by simp only [List.length_cons]; omega, fun t ht hk => ?_⟩
  rcases List.mem_cons.1 ht with rfl | ht
  ·have hk' : k = 3 := hk
   subst hk'
   obtain ⟨e1, e2, e3⟩ := tok3 hl hs
   refine ⟨atoi_digits _ ?_ ?_ e2, by simp; omega⟩
   ·rw [e1, digV_take]; exact dg_all _
   ·intro e
    have e' : l.take n = [] := e
    have : (l.take n).length = 0 := by rw [e']; rfl
    rw [List.length_take] at this
    omega
  ·exact ⟨(ih.2 t ht hk).1, by have := (ih.2 t ht hk).2; omega⟩
structure TreeEnv (w : World) : Prop where
 lex : LexEnv w.heap.size w
 signs : Signs w
 kinds : KindsT w
 b1 : 0 < w.heap.size
 b2 : 2 < w.heap.size
def noSrc : Value := .agg #[.slice none 0 0, .slice none 0 0]
def ParseSays (w w' : World) (s : ByteArray) (e : Ending) : Prop :=
 if 4000 < s.size then e = .returned (.tuple #[noSrc, .iface 27 (.int .i64 4)])
 else match lx s.data.toList 0 false with
  | (_, some (r, a)) => ∃ x, e = .returned (.tuple #[noSrc, x]) /\ AtErr w' w.heap.size x r a
  | (ts, none) => ∃ r, Ev (fun f => Tr.program ⟨ts, s.size⟩ f ⟨[], []⟩ 0) r /\ match r with
   | .ok src _ => ∃ gv fv, e = .returned (.tuple #[.agg #[gv, fv], .nilIface]) /\ SrcO w' w.heap.size src gv fv
   | .bad k a => ∃ x, e = .returned (.tuple #[noSrc, x]) /\ AtErr w' w.heap.size x k a
   | .out => False
theorem err_none (w : World) : (binOp BinOp.neq 33 .nilIface .nilIface).run Tryz.prog w = .ok (.bool false) w := by kernel_rfl
theorem err_at (p : Addr) (w : World) : (binOp BinOp.neq 33 (.iface 107 (.pointer (some p))) .nilIface).run Tryz.prog w = .ok (.bool true) w := by kernel_rfl
theorem err_no (k : Int) (w : World) : (binOp BinOp.neq 33 (.iface 27 (.int .i64 k)) .nilIface).run Tryz.prog w = .ok (.bool true) w := by kernel_rfl
theorem parse_err {tt : TypeId} {R : Value -> World -> World -> Prop} (hx : ∀ xv a b, R xv a b -> ∀ W, (binOp BinOp.neq 33 (.iface tt xv) .nilIface).run Tryz.prog W = .ok (.bool true) W) (s : ByteArray) (w : World)
  (hL : Calls Tryz.prog 29 #[.string s] ((w.alloc (.cells #[.slice none 0 0, .slice none 0 0] 26)).alloc (.cells #[.nilIface] 33)) fun e w' => ∃ xv, e = .returned (.tuple #[.slice none 0 0, .iface tt xv]) /\ R xv ((w.alloc (.cells #[.slice none 0 0, .slice none 0 0] 26)).alloc (.cells #[.nilIface] 33)) w' /\ Below (w.heap.size + 2) ((w.alloc (.cells #[.slice none 0 0, .slice none 0 0] 26)).alloc (.cells #[.nilIface] 33)) w') :
  Calls Tryz.prog 10 #[.string s] w fun e w' => ∃ xv, e = .returned (.tuple #[noSrc, .iface tt xv]) /\ ∃ w1, R xv ((w.alloc (.cells #[.slice none 0 0, .slice none 0 0] 26)).alloc (.cells #[.nilIface] 33)) w1 /\ Keeps (fun b => b = w.heap.size \/ b = w.heap.size + 1) w1 w' /\ Below w.heap.size w w' := by
 have HL := zz hL
 clear hL
 go_enter_defers Tryz.func10, Tryz.ntmps10
 go_wp2_with fail
 refine HL.out.mono ?_
 rintro e w1 ⟨xv, rfl, hR, hb⟩
 have hxx := hx xv _ _ hR
 clear hx
 have c0 : w1.cell? ⟨w.heap.size, 0, none⟩ = some (.slice none 0 0) := by
  rw [hb.cell (p := ⟨w.heap.size, 0, none⟩) (show w.heap.size < w.heap.size + 2 by omega)]; exact cell_more (cell_new _ _ _ 0 _ rfl rfl)
 have c1 : w1.cell? ⟨w.heap.size, 1, none⟩ = some (.slice none 0 0) := by
  rw [hb.cell (p := ⟨w.heap.size, 1, none⟩) (show w.heap.size < w.heap.size + 2 by omega)]; exact cell_more (cell_new _ _ _ 1 _ rfl rfl)
 have d0 : w1.cell? ⟨w.heap.size + 1, 0, none⟩ = some .nilIface := by
  rw [hb.cell (p := ⟨w.heap.size + 1, 0, none⟩) (show w.heap.size + 1 < w.heap.size + 2 by omega)]; exact cell_new _ _ _ 0 _ rfl (by simp)
 have z0 : w1.frozen? ⟨w.heap.size, 0, none⟩ = false := by
  rw [hb.frozen (p := ⟨w.heap.size, 0, none⟩) (show w.heap.size < w.heap.size + 2 by omega)]; exact frozen_more (by simp) (World.frozen?_alloc_new _ _ _ _)
 have z1 : w1.frozen? ⟨w.heap.size, 1, none⟩ = false := by
  rw [hb.frozen (p := ⟨w.heap.size, 1, none⟩) (show w.heap.size < w.heap.size + 2 by omega)]; exact frozen_more (by simp) (World.frozen?_alloc_new _ _ _ _)
 have y0 : w1.frozen? ⟨w.heap.size + 1, 0, none⟩ = false := by
  rw [hb.frozen (p := ⟨w.heap.size + 1, 0, none⟩) (show w.heap.size + 1 < w.heap.size + 2 by omega)]; exact World.frozen?_alloc_at _ _ _ _ (by simp)
 have HR := zz hR
 have HB := zz hb
 clear hR hb
 go_wp2_with fail
 have hk2 : Keeps (fun b => b = w.heap.size \/ b = w.heap.size + 1) w1 (w1.setCell ⟨w.heap.size + 1, 0, none⟩ (.iface tt xv)) := (Keeps.refl (fun b => b = w.heap.size \/ b = w.heap.size + 1) w1).setCell (p := ⟨w.heap.size + 1, 0, none⟩) (Or.inl (Or.inr rfl)) _
 have e0 : (w1.setCell ⟨w.heap.size + 1, 0, none⟩ (.iface tt xv)).cell? ⟨w.heap.size + 1, 0, none⟩ = some (.iface tt xv) := World.cell?_setCell_same _ _ _ d0
 have e1 : (w1.setCell ⟨w.heap.size + 1, 0, none⟩ (.iface tt xv)).cell? ⟨w.heap.size, 0, none⟩ = some (.slice none 0 0) := by rw [World.cell?_setCell_far _ _ _ _ (show w.heap.size + 1 ≠ w.heap.size by omega)]; exact c0
 have e2 : (w1.setCell ⟨w.heap.size + 1, 0, none⟩ (.iface tt xv)).cell? ⟨w.heap.size, 1, none⟩ = some (.slice none 0 0) := by rw [World.cell?_setCell_far _ _ _ _ (show w.heap.size + 1 ≠ w.heap.size by omega)]; exact c1
 have z02 : (w1.setCell ⟨w.heap.size + 1, 0, none⟩ (.iface tt xv)).frozen? ⟨w.heap.size, 0, none⟩ = false := by rw [World.frozen?_setCell]; exact z0
 have z12 : (w1.setCell ⟨w.heap.size + 1, 0, none⟩ (.iface tt xv)).frozen? ⟨w.heap.size, 1, none⟩ = false := by rw [World.frozen?_setCell]; exact z1
 have y02 : (w1.setCell ⟨w.heap.size + 1, 0, none⟩ (.iface tt xv)).frozen? ⟨w.heap.size + 1, 0, none⟩ = false := by rw [World.frozen?_setCell]; exact y0
 have HK2 := zz hk2
 clear c0 c1 d0 hk2 z0 z1 y0
 generalize w1.setCell ⟨w.heap.size + 1, 0, none⟩ (.iface tt xv) = w2 at *
 have hn1 : (⟨w.heap.size, 0, none⟩ : Addr).block ≠ (⟨w.heap.size + 1, 0, none⟩ : Addr).block := fun e => by have : w.heap.size = w.heap.size + 1 := e; omega
 refine wp_region_noPanic ?_
 refine wp_region_held_drew (S := fun W' => W'.cell? ⟨w.heap.size + 1, 0, none⟩ = some (.iface tt xv)) (by kernel_rfl) (by simp only [World.cell?_drew]; assumption) (fun hHeld => ?_)
 refine tk 0 13 (.agg #[.slice none 0 0, .slice none 0 0]) rfl (.inl ⟨by rfl, ?_⟩) hHeld ?_
 ·intro W9 hSW; (try dsimp only at hSW); go_simp
 try simp only [Act.put, List.setIfInBounds_toArray, List.set_cons_zero, List.set_cons_succ]
 refine tk 1 14 (.iface tt xv) rfl (.inl ⟨by rfl, ?_⟩) hHeld ?_
 ·intro W9 hSW; (try dsimp only at hSW); go_simp
 try simp only [Act.put, List.setIfInBounds_toArray, List.set_cons_zero, List.set_cons_succ]
 refine wpAnyH_ready (rs := [2]) (by kernel_rfl) (by simp) ?_
 refine AllReadyH.cons (o := { dst := none, op := _, type := _, pos := _, after := _, guard := _ }) rfl (fun K hK => ?_) AllReadyH.nil
 go_simp
 refine hK.out _ _ ?_ (fun hHeld => ?_)
 ·simp only [World.cell?_drew]
  exact (own2 (w := w2) (sb := w.heap.size) (i := 0) (j := 1) (a := .slice none 0 0) (b := .slice none 0 0)).cell_of e0 (fun e => hn1 e.symm)
 clear hK K
 refine wpAnyH_ready (rs := [3]) (by kernel_rfl) (by simp) ?_
 refine AllReadyH.cons (o := { dst := none, op := _, type := _, pos := _, after := _, guard := _ }) rfl (fun K hK => ?_) AllReadyH.nil
 go_simp
 have hks : Keeps (fun b => b = w.heap.size \/ b = w.heap.size + 1) w2 (((w2.setCell ⟨w.heap.size, 0, none⟩ (.slice none 0 0)).setCell ⟨w.heap.size, 1, none⟩ (.slice none 0 0)).setCell ⟨w.heap.size + 1, 0, none⟩ (.iface tt xv)).drew :=
  (((Keeps.refl (fun b => b = w.heap.size \/ b = w.heap.size + 1) w2).setCell (S := fun b => b = w.heap.size \/ b = w.heap.size + 1) (p := ⟨w.heap.size, 0, none⟩) (Or.inl (Or.inl rfl)) _).setCell (S := fun b => b = w.heap.size \/ b = w.heap.size + 1) (p := ⟨w.heap.size, 1, none⟩) (Or.inl (Or.inl rfl)) _).setCell (S := fun b => b = w.heap.size \/ b = w.heap.size + 1) (p := ⟨w.heap.size + 1, 0, none⟩) (Or.inl (Or.inr rfl)) _ |>.drew
 have e3 : (((w2.setCell ⟨w.heap.size, 0, none⟩ (.slice none 0 0)).setCell ⟨w.heap.size, 1, none⟩ (.slice none 0 0)).setCell ⟨w.heap.size + 1, 0, none⟩ (.iface tt xv)).cell? ⟨w.heap.size + 1, 0, none⟩ = some (.iface tt xv) := World.cell?_setCell_same _ _ _ ((own2 (w := w2) (sb := w.heap.size) (i := 0) (j := 1) (a := .slice none 0 0) (b := .slice none 0 0)).cell_of e0 (fun e => hn1 e.symm))
 have HKS := zz hks
 refine hK.out _ _ (by simp only [World.cell?_drew]; exact e3) (fun hHeld => ?_)
 clear hK K
 refine wpAnyH_done (by kernel_rfl) ?_ _
 refine NoPanic.normal ?_
 have hsz := HK2.out.size
 have hbz := HB.out.size
 go_wp2_with fail
 have hb0 : Below w.heap.size w w1 := (((Keeps.refl (fun _ => False) w).alloc _).alloc _ |>.below (Nat.le_refl _) (fun _ _ e => e.elim)).trans (HB.out.mono (by omega))
 have hk02 := HK2.out.trans HKS.out
 refine ⟨.tuple #[.agg #[.slice none 0 0, .slice none 0 0], .iface tt xv], by simp [results, Tryz.results10, go_sem, e0, e1, e2], xv, rfl, w1, HR.out, hk02, hb0.trans (hk02.below hb0.size (fun k _ e => by omega))⟩
theorem parse_ok {ts : List Tok} (s : ByteArray) (w : World) (hs : s.size <= 4000) (hts : lx s.data.toList 0 false = (ts, none)) (hE : TreeEnv w) :
  Calls Tryz.prog 10 #[.string s] w fun e w' => (∃ r, Ev (fun f => Tr.program ⟨ts, s.size⟩ f ⟨[], []⟩ 0) r /\ match r with
   | .ok src _ => ∃ gv fv, e = .returned (.tuple #[.agg #[gv, fv], .nilIface]) /\ SrcO w' w.heap.size src gv fv
   | .bad k a => ∃ x, e = .returned (.tuple #[noSrc, x]) /\ AtErr w' w.heap.size x k a
   | .out => False) /\ Below w.heap.size w w' := by
 obtain ⟨W0, hW0⟩ : ∃ W0, W0 = (w.alloc (.cells #[.slice none 0 0, .slice none 0 0] 26)).alloc (.cells #[.nilIface] 33) := ⟨_, rfl⟩
 have hsz0 : W0.heap.size = w.heap.size + 2 := by rw [hW0]; simp
 have hb0 : Below w.heap.size w W0 := by rw [hW0]; exact ((Keeps.refl (fun _ => False) w).alloc _).alloc _ |>.below (Nat.le_refl _) (fun _ _ e => e.elim)
 have hB0 : Blk W0 w.heap.size [.slice none 0 0, .slice none 0 0] := by rw [hW0]; exact (Blk.new' w [.slice none 0 0, .slice none 0 0] _ rfl).keeps (S := fun _ => False) ((Keeps.refl _ _).alloc _) id
 have hE0 : Blk W0 (w.heap.size + 1) [.nilIface] := by rw [hW0]; exact Blk.new' _ [.nilIface] _ (by simp)
 have hl := hE.lex.below hb0 (Nat.le_refl _)
 have hLx : LexEnv W0.heap.size W0 := ⟨hl.tabs, hl.errR, hl.sgs, by have := hl.b1; omega, by have := hl.b2; omega, by have := hl.b3; omega, by have := hl.b4; omega⟩
 have hL : Calls Tryz.prog 29 #[.string s] W0 fun e w' => (∃ v, e = .returned (.tuple #[v, .nilIface]) /\ w'.ownsRow (W0.heap.size + 1) 100 3 v ts.length (cellsT ts)) /\ Below W0.heap.size W0 w' := (lex_any s W0 hLx).mono fun e w' ⟨h, hb⟩ => by
  unfold LexSays at h
  rw [if_neg (by omega), hts] at h
  exact ⟨h, hb⟩
 obtain ⟨hlen, hnums⟩ := toks_ok _ _ _ _ hts
 have hsl : s.data.toList.length = s.size := by simp
 rw [hsl] at hlen hnums
 have HL := zz hL
 have HE := zz hE
 have HNUM : Hid (∀ t ∈ ts, t.kind = 3 -> Lib.atoiAll t.text = .ok (numV t.text : Nat) /\ t.text.length <= 4000) := zz fun t ht hk => ⟨(hnums t ht hk).1, by have := (hnums t ht hk).2; omega⟩
 have HLEN : Hid (ts.length <= 10000) := zz (by omega)
 have HB0 := zz hb0
 have HBLK := zz hB0
 have HEB := zz hE0
 have HSZ := zz hsz0
 have hmf : ∀ (fn : Fn) (first cap : Array Value) (w : World), (Instr.makeFunc fn first cap).run Tryz.prog w = .ok (.func fn first cap) w := fun _ _ _ _ => rfl
 have hen := err_none
 have hss : s.size <= 4000 := hs
 clear hE hb0 hB0 hE0 hl hLx hL hlen hnums hsl hts hsz0 hs
 go_enter_defers Tryz.func10, Tryz.ntmps10
 go_wp2_with fail
 rw [<- hW0]
 clear hW0
 refine HL.out.mono ?_
 rintro e w1 ⟨⟨v, rfl, hown⟩, hb1⟩
 have hrow := rowT_own hown
 have hform : ∃ a c, v = .slice a ts.length c := by
  rcases hrow with ⟨e1, e2⟩ | ⟨g, cap, e1, _⟩
  ·exact ⟨none, 0, by rw [e1, e2]; rfl⟩
  ·exact ⟨_, _, e1⟩
 obtain ⟨va, vc, rfl⟩ := hform
 have hge : ∀ g m c, Value.slice va ts.length vc = .slice (some ⟨g, 0, none⟩) m c -> W0.heap.size < g /\ g < w1.heap.size := fun g m c e => by
  cases e
  have := own_ge hown g rfl
  omega
 have hblk := HBLK.out.fresh hb1
 have heb := HEB.out.fresh hb1
 have d0 := heb.at_ 0 _ rfl
 have y0 := heb.free 0
 have hk1 : Keeps (fun b => b = w.heap.size + 1) w1 (w1.setCell ⟨w.heap.size + 1, 0, none⟩ .nilIface) := own1
 have HROW := zz hrow
 have HGE := zz hge
 have HBK := zz hblk
 have HEK := zz heb
 have HB1 : Hid (Below w.heap.size w w1) := zz (HB0.out.trans (hb1.mono (by have := HSZ.out; omega)))
 have HW1 : Hid (w.heap.size + 2 <= w1.heap.size) := zz (by have := HSZ.out; have := hb1.size; omega)
 clear hown hrow hge hblk heb hb1 hk1 HL
 go_wp2_with fail
 have hkw : Keeps (fun b => b = w.heap.size + 1) w1 ((w1.setCell ⟨w.heap.size + 1, 0, none⟩ .nilIface).alloc (.cells #[.slice va ts.length vc, .int .i64 0, .int .i64 (s.size : Nat), .int .i64 0] 70)) := (own1 (w := w1)).alloc _
 have hszs : (w1.setCell ⟨w.heap.size + 1, 0, none⟩ .nilIface).heap.size = w1.heap.size := by simp [World.setCell]
 have hw1 := HW1.out
 have hbw : Below w.heap.size w ((w1.setCell ⟨w.heap.size + 1, 0, none⟩ .nilIface).alloc (.cells #[.slice va ts.length vc, .int .i64 0, .int .i64 (s.size : Nat), .int .i64 0] 70)) := HB1.out.trans (hkw.below (by omega) (fun k _ e => by omega))
 have hR : RdAt ((w1.setCell ⟨w.heap.size + 1, 0, none⟩ .nilIface).alloc (.cells #[.slice va ts.length vc, .int .i64 0, .int .i64 (s.size : Nat), .int .i64 0] 70)) w1.heap.size (.slice va ts.length vc) ⟨ts, s.size⟩ 0 0 :=
  ⟨cell_new _ _ _ 0 _ rfl hszs.symm, cell_new _ _ _ 1 _ rfl hszs.symm, cell_new _ _ _ 2 _ rfl hszs.symm, cell_new _ _ _ 3 _ rfl hszs.symm, World.frozen?_alloc_at _ _ _ _ hszs.symm, World.frozen?_alloc_at _ _ _ _ hszs.symm, HROW.out.keeps hkw (fun g m cap e e2 => by have := (HGE.out g m cap e).1; have := HSZ.out; have : g = w.heap.size + 1 := e2; omega), fun g m cap e => (HGE.out g m cap e).2, Nat.zero_le _, HLEN.out, Nat.zero_le _⟩
 have hb1 := HE.out.b1
 have hb2 := HE.out.b2
 have hT : TEnv w1.heap.size ⟨ts, s.size⟩ ((w1.setCell ⟨w.heap.size + 1, 0, none⟩ .nilIface).alloc (.cells #[.slice va ts.length vc, .int .i64 0, .int .i64 (s.size : Nat), .int .i64 0] 70)) :=
  ⟨fun k hk => by rw [hbw.cell (p := ⟨0, k, none⟩) hb1]; exact HE.out.signs k hk, fun k hk => by rw [hbw.cell (p := ⟨2, k, none⟩) hb2]; exact HE.out.kinds k hk, by omega, by omega, HNUM.out⟩
 have HPR := zz (program_any _ hR hT)
 have HKW := zz hkw
 have HBW := zz hbw
 have HSS := zz hszs
 clear hkw hszs hw1 hbw hR hb1 hb2 hT d0 y0
 refine HPR.out.mono ?_
 rintro e w3 ⟨r, hev, hsay⟩
 have HEV := zz hev
 clear hev
 have hw1 := HW1.out
 have hsz2 : w1.heap.size + 1 = ((w1.setCell ⟨w.heap.size + 1, 0, none⟩ .nilIface).alloc (.cells #[.slice va ts.length vc, .int .i64 0, .int .i64 (s.size : Nat), .int .i64 0] 70)).heap.size := by simp [World.setCell]
 have hbk2 := HBK.out.keeps HKW.out (fun e => by have : w.heap.size = w.heap.size + 1 := e; omega)
 have hek2 : Blk ((w1.setCell ⟨w.heap.size + 1, 0, none⟩ .nilIface).alloc (.cells #[.slice va ts.length vc, .int .i64 0, .int .i64 (s.size : Nat), .int .i64 0] 70)) (w.heap.size + 1) [.nilIface] := (HEK.out.set 0 .nilIface (by simp)).keeps (S := fun _ => False) ((Keeps.refl _ _).alloc _) id
 cases r with
 | out => exact hsay.elim
 | bad k a =>
  obtain ⟨b, rfl, hbb, hc0, hc1, hblw⟩ := hsay
  have hbk3 : Blk w3 w.heap.size [.slice none 0 0, .slice none 0 0] := ⟨fun j v hv => by rw [hblw.cell (p := ⟨w.heap.size, j, none⟩) (show w.heap.size < w1.heap.size by omega)]; exact hbk2.at_ j v hv, fun j => by rw [hblw.frozen (p := ⟨w.heap.size, j, none⟩) (show w.heap.size < w1.heap.size by omega)]; exact hbk2.free j, Nat.lt_of_lt_of_le hbk2.lt hblw.size⟩
  have hek3 : Blk w3 (w.heap.size + 1) [.nilIface] := ⟨fun j v hv => by rw [hblw.cell (p := ⟨w.heap.size + 1, j, none⟩) (show w.heap.size + 1 < w1.heap.size by omega)]; exact hek2.at_ j v hv, fun j => by rw [hblw.frozen (p := ⟨w.heap.size + 1, j, none⟩) (show w.heap.size + 1 < w1.heap.size by omega)]; exact hek2.free j, Nat.lt_of_lt_of_le hek2.lt hblw.size⟩
  have hbw3 := HBW.out.trans (hblw.mono (show w.heap.size <= w1.heap.size by omega))
  have hks : Keeps (fun b => b = w.heap.size \/ b = w.heap.size + 1) w3 (((w3.setCell ⟨w.heap.size, 0, none⟩ (.slice none 0 0)).setCell ⟨w.heap.size, 1, none⟩ (.slice none 0 0)).setCell ⟨w.heap.size + 1, 0, none⟩ (.iface 107 (.pointer (some ⟨b, 0, none⟩)))) :=
   (((Keeps.refl (fun b => b = w.heap.size \/ b = w.heap.size + 1) w3).setCell (S := fun b => b = w.heap.size \/ b = w.heap.size + 1) (p := ⟨w.heap.size, 0, none⟩) (Or.inl (Or.inl rfl)) _).setCell (S := fun b => b = w.heap.size \/ b = w.heap.size + 1) (p := ⟨w.heap.size, 1, none⟩) (Or.inl (Or.inl rfl)) _).setCell (S := fun b => b = w.heap.size \/ b = w.heap.size + 1) (p := ⟨w.heap.size + 1, 0, none⟩) (Or.inl (Or.inr rfl)) _
  have c0 := hbk3.at_ 0 _ rfl
  have c1 := hbk3.at_ 1 _ rfl
  have d0 := hek3.at_ 0 _ rfl
  refine leaves_cons (f := 30) (args := #[.pointer (some ⟨w.heap.size, 0, none⟩), .pointer (some ⟨w.heap.size + 1, 0, none⟩)]) (by simp) (by simp [go_sem]) ?_
  refine (parseCatch w.heap.size (w.heap.size + 1) b _ _ _ [] w3 c0 c1 d0 (hbk3.free 0) (hbk3.free 1) (hek3.free 0) (by omega)).mono ?_
  rintro e u' w'' ⟨rfl, rfl, rfl⟩
  have hlt3 := hek3.lt
  refine ⟨.tuple #[.agg #[.slice none 0 0, .slice none 0 0], .iface 107 (.pointer (some ⟨b, 0, none⟩))], by simp [results, Tryz.results10, go_sem, c0, c1, d0], ⟨.bad k a, HEV.out, _, rfl, b, rfl, by omega, hks.cell_of hc0 (fun e => by have : b = w.heap.size \/ b = w.heap.size + 1 := e; omega), hks.cell_of hc1 (fun e => by have : b = w.heap.size \/ b = w.heap.size + 1 := e; omega)⟩, hbw3.trans (hks.below (B := w.heap.size) (by omega) (fun k _ e => by omega))⟩
 | ok src m =>
  obtain ⟨v3, rfl, ⟨gv, fv, rfl, hsf⟩, hr3, hk3⟩ := hsay
  obtain ⟨⟨ga, gl, gc, rfl⟩, fa, fl, fc, rfl⟩ := hsf.form
  have hbk3 := hbk2.keeps hk3 (fun e => by have : w.heap.size = w1.heap.size := e; omega)
  have hek3 := hek2.keeps hk3 (fun e => by have : w.heap.size + 1 = w1.heap.size := e; omega)
  have c0 := hbk3.at_ 0 _ rfl
  have c1 := hbk3.at_ 1 _ rfl
  have z0 := hbk3.free 0
  have z1 := hbk3.free 1
  have d0 := hek3.at_ 0 _ rfl
  have y0 := hek3.free 0
  have HSF := zz hsf
  have HK3 := zz hk3
  clear hbk2 hek2 hbk3 hek3 hsf hr3 hk3
  go_wp2_with fail
  have hks : Keeps (fun b => b = w.heap.size \/ b = w.heap.size + 1) w3 (((w3.setCell ⟨w.heap.size, 0, none⟩ (.slice ga gl gc)).setCell ⟨w.heap.size, 1, none⟩ (.slice fa fl fc)).setCell ⟨w.heap.size + 1, 0, none⟩ .nilIface) :=
   (((Keeps.refl (fun b => b = w.heap.size \/ b = w.heap.size + 1) w3).setCell (S := fun b => b = w.heap.size \/ b = w.heap.size + 1) (p := ⟨w.heap.size, 0, none⟩) (Or.inl (Or.inl rfl)) _).setCell (S := fun b => b = w.heap.size \/ b = w.heap.size + 1) (p := ⟨w.heap.size, 1, none⟩) (Or.inl (Or.inl rfl)) _).setCell (S := fun b => b = w.heap.size \/ b = w.heap.size + 1) (p := ⟨w.heap.size + 1, 0, none⟩) (Or.inl (Or.inr rfl)) _
  refine leaves_cons (f := 30) (args := #[.pointer (some ⟨w.heap.size, 0, none⟩), .pointer (some ⟨w.heap.size + 1, 0, none⟩)]) (by simp) (by simp [go_sem]) ?_
  refine (parseIdle ⟨w.heap.size, 0, none⟩ ⟨w.heap.size + 1, 0, none⟩ _).mono ?_
  rintro e u' w'' ⟨rfl, rfl, rfl⟩
  have hsz3 := HK3.out.size
  have hbf := (HBW.out.trans (HK3.out.below (by omega) (fun k _ e => by have : k = w1.heap.size := e; omega))).trans (hks.below (B := w.heap.size) (by omega) (fun k _ e => by omega))
  refine ⟨.tuple #[.agg #[.slice ga gl gc, .slice fa fl fc], .nilIface], by simp [results, Tryz.results10, go_sem, c0, c1, d0], ⟨.ok src m, HEV.out, _, _, rfl, ?_⟩, hbf⟩
  exact SrcO.mono (by omega) (HSF.out.keeps hks (fun b e e2 => by omega))
theorem treeParse_any (s : ByteArray) (w : World) (hE : TreeEnv w) : Calls Tryz.prog 10 #[.string s] w fun e w' => ParseSays w w' s e /\ Below w.heap.size w w' := by
 have hb0 : Below w.heap.size w ((w.alloc (.cells #[.slice none 0 0, .slice none 0 0] 26)).alloc (.cells #[.nilIface] 33)) := ((Keeps.refl (fun _ => False) w).alloc _).alloc _ |>.below (Nat.le_refl _) (fun _ _ e => e.elim)
 have hsz0 : ((w.alloc (.cells #[.slice none 0 0, .slice none 0 0] 26)).alloc (.cells #[.nilIface] 33)).heap.size = w.heap.size + 2 := by simp
 have hl := hE.lex.below hb0 (Nat.le_refl _)
 have hLx : LexEnv ((w.alloc (.cells #[.slice none 0 0, .slice none 0 0] 26)).alloc (.cells #[.nilIface] 33)).heap.size ((w.alloc (.cells #[.slice none 0 0, .slice none 0 0] 26)).alloc (.cells #[.nilIface] 33)) := ⟨hl.tabs, hl.errR, hl.sgs, by have := hl.b1; omega, by have := hl.b2; omega, by have := hl.b3; omega, by have := hl.b4; omega⟩
 have hL := lex_any s _ hLx
 by_cases hs : 4000 < s.size
 ·refine (parse_err (tt := 27) (R := fun xv _ _ => xv = .int .i64 4) (fun xv _ _ h W => by rw [h]; exact err_no 4 W) s w (hL.mono fun e w' ⟨h, hb⟩ => ?_)).mono ?_
  ·unfold LexSays at h
   rw [if_pos hs] at h
   exact ⟨_, h, rfl, by rw [hsz0] at hb; exact hb⟩
  ·rintro e w' ⟨xv, rfl, w1, rfl, _, hb⟩
   refine ⟨?_, hb⟩
   unfold ParseSays
   rw [if_pos hs]
 ·cases hq : lx s.data.toList 0 false with
  | mk ts o =>
   cases o with
   | none =>
    refine (parse_ok s w (by omega) hq hE).mono ?_
    rintro e w' ⟨h, hb⟩
    refine ⟨?_, hb⟩
    unfold ParseSays
    rw [if_neg hs, hq]
    exact h
   | some ra =>
    obtain ⟨r, a⟩ := ra
    refine (parse_err (tt := 107) (R := fun xv W w' => ∃ b, xv = .pointer (some ⟨b, 0, none⟩) /\ W.heap.size < b /\ w'.cell? ⟨b, 0, none⟩ = some (.int .i64 r) /\ w'.cell? ⟨b, 1, none⟩ = some (.int .i64 a)) (fun xv _ _ ⟨b, h, _⟩ W => by rw [h]; exact err_at _ W) s w (hL.mono fun e w' ⟨h, hb⟩ => ?_)).mono ?_
    ·unfold LexSays at h
     rw [if_neg hs, hq] at h
     obtain ⟨x, h1, b, rfl, h2, h3, h4⟩ := h
     exact ⟨_, h1, ⟨b, rfl, h2, h3, h4⟩, by rw [hsz0] at hb; exact hb⟩
    ·rintro e w' ⟨xv, rfl, w1, ⟨b, rfl, h2, h3, h4⟩, hk, hb⟩
     refine ⟨?_, hb⟩
     unfold ParseSays
     rw [if_neg hs, hq]
     rw [hsz0] at h2
     exact ⟨_, rfl, b, rfl, by omega, hk.cell_of h3 (fun e => by have : b = w.heap.size \/ b = w.heap.size + 1 := e; omega), hk.cell_of h4 (fun e => by have : b = w.heap.size \/ b = w.heap.size + 1 := e; omega)⟩
end Go.Proofs.YtjejcajnnbilmaaGreatDoor
namespace Go.Proofs.YtjejcajnnbilmaaGreatDoor
open Go.RowKit
theorem info_byte : (Tryz.prog.info? 5).map (fun i => (i.zero, i.size, i.bytes)) = some (some (.int .u8 0), 1, 1) := by kernel_rfl
theorem bc_snoc (l : List UInt8) (s : ByteArray) : Lib.byteCells l ++ Lib.strCells s = Lib.byteCells (l ++ s.data.toList) := by
 rw [Lib.strCells_eq]; simp [Lib.byteCells]
def PB (B b : Nat) (l : List UInt8) (w : World) : Prop := Lib.IsBuilder 80 5 B b ((Lib.byteCells l)) w
def PC (B b : Nat) (l : List UInt8) (w : World) : Prop := PB B b l w /\ (l = [] -> w.cell? ⟨b, 1, none⟩ = some (.slice none 0 0))
def Others (b : Nat) (w w' : World) : Prop := ∀ (k : Nat) (xs : Array Value) (e : TypeId) (fz : Nat × Nat), k ≠ b -> e ≠ 5 -> w.heap[k]? = some (Obj.cells xs e fz) -> w'.heap[k]? = some (Obj.cells xs e fz)
theorem Others.trans {b : Nat} {a w w' : World} (h : Others b a w) (k : Others b w w') : Others b a w' := fun i xs e fz h1 h2 h3 => k i xs e fz h1 h2 (h i xs e fz h1 h2 h3)
theorem Others.refl (b : Nat) (w : World) : Others b w w := fun _ _ _ _ _ _ h => h
theorem pb_size : (Tryz.prog.info? 78).map (·.size) = some 2 := by kernel_rfl
theorem pb_lies : liesAt Tryz.prog Tryz.prog.depth 80 (2 / Tryz.prog.cellsOf 80) 0 78 1 = true := by kernel_rfl
theorem pCheck_used (b : Nat) (w : World) (h0 : w.cell? ⟨b, 0, none⟩ = some (.pointer (some ⟨b, 0, none⟩))) :
  Calls Tryz.prog 124 #[.pointer (some ⟨b, 0, none⟩)] w fun e w' => e = .returned (.tuple #[]) /\ w' = w := by
 obtain ⟨j, hj, _⟩ := Option.map_eq_some_iff.1 pb_size
 go_enter Tryz.func124, Tryz.ntmps124
 go_wp2
 rw [Lib.run_neq_ptr_same w _ Tryz.underlying75 hj]
 go_wp2
 go_end0
 exact ⟨rfl, rfl⟩
theorem pCheck_fresh (b : Nat) (w : World) (h0 : w.cell? ⟨b, 0, none⟩ = some (.pointer none)) (hsh : w.shape? b = some (80, 2)) (hfz : w.frozen? ⟨b, 0, none⟩ = false) :
  Calls Tryz.prog 124 #[.pointer (some ⟨b, 0, none⟩)] w fun e w' => e = .returned (.tuple #[]) /\ w' = w.setCell ⟨b, 0, none⟩ (.pointer (some ⟨b, 0, none⟩)) := by
 obtain ⟨j, hj, hjs⟩ := Option.map_eq_some_iff.1 pb_size
 go_enter Tryz.func124, Tryz.ntmps124
 go_wp2
 rw [Lib.run_to_unsafe w ⟨b, 0, none⟩ Tryz.underlying75 Tryz.underlying125 hj (by rw [hjs]; decide) hsh (Nat.zero_lt_succ 1)]
 simp only [Result.andThen]
 rw [Oper.upon_value]
 go_wp2
 rw [run_callFunc_extern Tryz.func151 (by kernel_rfl) (by kernel_rfl) (by kernel_rfl) (e := Extern.AbiNoEscape.same) (by kernel_rfl)]
 rw [Lib.run_noEscape]
 simp only [Result.andThen]
 rw [Oper.upon_value]
 go_wp2
 rw [Lib.run_from_unsafe w ⟨b, 0, none⟩ Tryz.underlying125 Tryz.underlying75 hj hsh pb_lies]
 simp only [Result.andThen]
 rw [Oper.upon_value]
 go_wp2
 go_end0
 exact ⟨rfl, rfl⟩
theorem pCheck_any (B b : Nat) (l : List UInt8) (w : World) (h : PB B b l w) :
  Calls Tryz.prog 124 #[.pointer (some ⟨b, 0, none⟩)] w fun e w' => e = .returned (.tuple #[]) /\ (Lib.BuilderAt 80 5 B b (.pointer (some ⟨b, 0, none⟩)) ((Lib.byteCells l)) w' /\ Below B w w' /\ w'.cell? ⟨b, 1, none⟩ = w.cell? ⟨b, 1, none⟩ /\ ∀ k, k ≠ b -> w'.heap[k]? = w.heap[k]?) := by
 rcases h with h | h
 ·refine (pCheck_fresh b w h.cell0 h.shape h.frozen0).mono ?_
  rintro e w' ⟨rfl, rfl⟩
  exact ⟨rfl, h.used _, (Below.refl B w).setCell (p := ⟨b, 0, none⟩) h.1 _, World.cell?_setCell_other _ _ _ _ (off_neq (by decide) b), fun k hk => Below.heap_setCell _ _ _ _ hk⟩
 ·refine (pCheck_used b w h.cell0).mono ?_
  rintro e w' ⟨rfl, rfl⟩
  exact ⟨rfl, h, Below.refl B _, rfl, fun _ _ => rfl⟩
theorem pWrite_any (B b : Nat) (l : List UInt8) (s : ByteArray) (w : World) (h : PC B b l w) (hlen : l.length + s.size <= 1000000) (hBw : B <= w.heap.size) :
    Calls Tryz.prog 96 #[.pointer (some ⟨b, 0, none⟩), .string s] w fun e w' => e = .returned (.tuple #[.int .i64 s.size, .nilIface]) /\ (PC B b (l ++ s.data.toList) w' /\ Below B w w' /\ Others b w w') := by
  obtain ⟨i0, hi, hz0, hz1, hz2⟩ := tinfo info_byte
  go_enter Tryz.func96, Tryz.ntmps96
  go_wp2_with fail
  refine (pCheck_any B b l _ h.1).mono ?_
  rintro e w1 ⟨rfl, h1, hb1, hc1, hot⟩
  have HOT := zz hot
  clear hot
  have HC1 := zz hc1
  have HPC := zz h
  clear hc1 h
  obtain ⟨hB, v, hbk, hown, hne⟩ := h1
  have c0 : w1.cell? ⟨b, 0, none⟩ = some (.pointer (some ⟨b, 0, none⟩)) := by rw [Lib.cell_of_heap hbk]; rfl
  have c1 : w1.cell? ⟨b, 1, none⟩ = some v := by rw [Lib.cell_of_heap hbk]; rfl
  have hcl := Lib.byteCells_length l
  go_wp2_with (at_builtin; refine Lib.wpList_append_own_string _ rfl _ _ 76 9 rfl B 5 i0 Tryz.underlying76 Tryz.underlying9 hi hz0 hz1 hz2 _ _ _ rfl hown s rfl ?c3 ?c4 ?c5 ?_)
  case c3 => unfold maxLen; omega
  case c4 => omega
  case c5 => have := hb1.size; omega
  intro v' w2 hown' hgrow hiff
  have hnil : l ++ s.data.toList = [] -> v' = .slice none 0 0 := fun e => by
    obtain ⟨e1, e2⟩ := List.append_eq_nil_iff.1 e
    refine hiff.2 ⟨?_, by have : s.data.toList.length = s.size := by simp
                          rw [e2] at this; simpa using this.symm⟩
    have h9 := HPC.out.2 e1
    rw [<- HC1.out, c1] at h9
    exact Option.some.inj h9
  have HNIL := zz hnil
  have HOTH : Hid (∀ (k : Nat) (xs : Array Value) (e : TypeId) (fz : Nat × Nat), e ≠ 5 -> w1.heap[k]? = some (Obj.cells xs e fz) -> w2.heap[k]? = some (Obj.cells xs e fz)) := zz fun k xs e fz he hk => by
    rw [hgrow.block k (Array.getElem?_eq_some_iff.1 hk).1 (fun e2 => ?_)]
    · exact hk
    · rcases hown.2 with ⟨rfl, _⟩ | ⟨g, cap, cur, rfl, _, hg, _⟩
      · cases e2
      · have e3 : k = g := Option.some.inj e2
        rw [e3, hg] at hk
        have e4 := Option.some.inj hk
        injection e4 with _ e5 _
        exact he e5.symm
  clear hnil hiff
  have hlt : b < w1.heap.size := by
    rcases Nat.lt_or_ge b w1.heap.size with h' | h'
    · exact h'
    · simp [Array.getElem?_eq_none h'] at hbk
  have hb2 : w2.heap[b]? = some (.cells #[.pointer (some ⟨b, 0, none⟩), v] 80 (0, 0)) := by
    rw [hgrow.block b hlt (fun e => hne e.symm)]
    exact hbk
  have d0 : w2.cell? ⟨b, 0, none⟩ = some (.pointer (some ⟨b, 0, none⟩)) := by rw [Lib.cell_of_heap hb2]; rfl
  have d1 : w2.cell? ⟨b, 1, none⟩ = some v := by rw [Lib.cell_of_heap hb2]; rfl
  have f1 : w2.frozen? ⟨b, 1, none⟩ = false := Lib.frozen_of_heap hb2 1
  obtain ⟨ao, n', cap, rfl⟩ : ∃ ao n' cap, v' = .slice ao n' cap := by
    rcases hown'.2 with ⟨hv, _⟩ | ⟨g, cap, cur, hv, _⟩
    · exact ⟨_, _, _, hv⟩
    · exact ⟨_, _, _, hv⟩
  have HO := zz hown'
  have HB3 := zz (hb1.grown hgrow (by have := hb1.size; omega) (fun k hk => (hown.lt k hk).1))
  clear hown' hgrow hown hbk c0 c1
  go_wp2
  go_ret2
  refine ⟨rfl, ⟨Or.inr ?_, fun e => by rw [HNIL.out e]; exact World.cell?_setCell_same _ _ _ d1⟩, HB3.out.setCell (p := ⟨b, 1, none⟩) hB _, fun k xs e fz hk he hx => by
    rw [Below.heap_setCell _ _ _ _ hk]
    exact HOTH.out k xs e fz he (by rw [HOT.out k hk]; exact hx)⟩
  have := Lib.BuilderAt.put (T := 80) (e := 5) hB hb2 (bs' := (Lib.byteCells l) ++ Lib.strCells s) (by simpa [Lib.strCells_length, Lib.byteCells_length] using HO.out) (by decide)
  rwa [bc_snoc] at this
theorem keeps_freeze (w : World) (p : Addr) (n : Nat) : Keeps (fun k => k = p.block) w (w.freeze p n) := by
 unfold World.freeze
 split
 ·exact Keeps.refl _ _
 ·exact ⟨rfl, rfl, rfl, by simp, fun k hk hn => by
   simp only [Array.getElem?_modify]
   rw [if_neg (fun e => hn e.symm)]⟩
theorem pString_some (B b : Nat) (l : List UInt8) (w : World) (h : PB B b l w) (h0 : l ≠ []) :
  Calls Tryz.prog 37 #[.pointer (some ⟨b, 0, none⟩)] w fun e w' => e = .returned (.string ⟨l.toArray⟩) /\ Below B w w' := by
 obtain ⟨p, hB, v, hbk, hown, hne⟩ : ∃ p, Lib.BuilderAt 80 5 B b p (Lib.byteCells l) w := by
  rcases h with h | h
  ·exact ⟨_, h⟩
  ·exact ⟨_, h⟩
 have hl0 : l.length ≠ 0 := by simpa using h0
 rw [Lib.byteCells_length] at hown
 have hcl := hown.1
 obtain ⟨g, cap, hv, hge, hcap, hcm, hsh⟩ : ∃ g cap, v = .slice (some ⟨g, 0, none⟩) l.length cap /\ B <= g /\ l.length <= cap /\ cap <= maxLen /\ w.shape? g = some (5, cap) := by
  rcases hown.2 with ⟨_, hz⟩ | ⟨g, cap, cur, hv, h1, h2, h3, h4, h5, _⟩
  ·exact absurd hz hl0
  ·exact ⟨g, cap, hv, h1, h3, h4, by simp [World.shape?, h2]; omega⟩
 subst hv
 have hbg : g ≠ b := fun e => hne (by rw [e]; rfl)
 have c1 : w.cell? ⟨b, 1, none⟩ = some (.slice (some ⟨g, 0, none⟩) l.length cap) := by rw [Lib.cell_of_heap hbk]; rfl
 have hSD : ∀ W, (Builtin.unsafeSliceData_ #[76] 121 #[.slice (some ⟨g, 0, none⟩) l.length cap]).run Tryz.prog W = .ok (.pointer (some ⟨g, 0, none⟩)) W := fun W => Lib.run_unsafeSliceData_row _ _ _ _ _ _ (by omega)
 have hcells : ∀ (j : Nat) (x : UInt8), l[j]? = some x -> w.drew.cell? ((⟨g, 0, none⟩ : Addr).add j) = some (.int .u8 x.toNat) := fun j x hx => hown.cells (g := g) rfl j (.int .u8 x.toNat) (by simp [Lib.byteCells, hx])
 have hUS : (Builtin.unsafeString_ #[121, 3] 9 #[.pointer (some ⟨g, 0, none⟩), .int .i64 l.length]).run Tryz.prog w.drew = .ok (.string ⟨l.toArray⟩) (w.drew.freeze ⟨g, 0, none⟩ l.length) :=
  Lib.run_unsafeString_row w.drew 121 3 9 5 Tryz.underlying121 (by kernel_rfl) g cap hsh l h0 hcap (by unfold maxLen at hcm; omega) hcells
 clear hcells hown hbk h hsh
 go_enter Tryz.func37, Tryz.ntmps37
 go_wp2_with fail
 refine wp_region_held_drew (S := fun W' => W'.cell? ⟨b, 1, none⟩ = some (.slice (some ⟨g, 0, none⟩) l.length cap)) (by kernel_rfl) (by simp only [World.cell?_drew]; assumption) (fun hHeld => ?_)
 refine tk 0 3 (.pointer (some ⟨b, 0, none⟩)) rfl (.inl ⟨by rfl, ?_⟩) hHeld ?_
 ·intro W9 hSW; (try dsimp only at hSW); go_simp
 try simp only [Act.put, List.setIfInBounds_toArray, List.set_cons_zero, List.set_cons_succ]
 refine tk 1 4 (.pointer (some ⟨b, 0, none⟩)) rfl (.inl ⟨by rfl, ?_⟩) hHeld ?_
 ·intro W9 hSW; (try dsimp only at hSW); go_simp
 try simp only [Act.put, List.setIfInBounds_toArray, List.set_cons_zero, List.set_cons_succ]
 refine tk 2 5 (.pointer (some ⟨b, 1, none⟩)) rfl (.inl ⟨by rfl, ?_⟩) hHeld ?_
 ·intro W9 hSW; (try dsimp only at hSW); go_simp
 try simp only [Act.put, List.setIfInBounds_toArray, List.set_cons_zero, List.set_cons_succ]
 refine tk 3 6 (.slice (some ⟨g, 0, none⟩) l.length cap) rfl (.inl ⟨by rfl, ?_⟩) hHeld ?_
 ·intro W9 hSW; (try dsimp only at hSW); go_simp
 try simp only [Act.put, List.setIfInBounds_toArray, List.set_cons_zero, List.set_cons_succ]
 refine tk 4 7 (.pointer (some ⟨g, 0, none⟩)) rfl (.inl ⟨by rfl, ?_⟩) hHeld ?_
 ·intro W9 hSW; (try dsimp only at hSW); go_simp
 try simp only [Act.put, List.setIfInBounds_toArray, List.set_cons_zero, List.set_cons_succ]
 refine tk 5 8 (.pointer (some ⟨b, 0, none⟩)) rfl (.inl ⟨by rfl, ?_⟩) hHeld ?_
 ·intro W9 hSW; (try dsimp only at hSW); go_simp
 try simp only [Act.put, List.setIfInBounds_toArray, List.set_cons_zero, List.set_cons_succ]
 refine tk 6 9 (.pointer (some ⟨b, 0, none⟩)) rfl (.inl ⟨by rfl, ?_⟩) hHeld ?_
 ·intro W9 hSW; (try dsimp only at hSW); go_simp
 try simp only [Act.put, List.setIfInBounds_toArray, List.set_cons_zero, List.set_cons_succ]
 refine tk 7 10 (.pointer (some ⟨b, 1, none⟩)) rfl (.inl ⟨by rfl, ?_⟩) hHeld ?_
 ·intro W9 hSW; (try dsimp only at hSW); go_simp
 try simp only [Act.put, List.setIfInBounds_toArray, List.set_cons_zero, List.set_cons_succ]
 refine tk 8 11 (.slice (some ⟨g, 0, none⟩) l.length cap) rfl (.inl ⟨by rfl, ?_⟩) hHeld ?_
 ·intro W9 hSW; (try dsimp only at hSW); go_simp
 try simp only [Act.put, List.setIfInBounds_toArray, List.set_cons_zero, List.set_cons_succ]
 refine tk 9 12 (.int .i64 (l.length : Nat)) rfl (.inl ⟨by rfl, ?_⟩) hHeld ?_
 ·intro W9 hSW; (try dsimp only at hSW); go_simp
 try simp only [Act.put, List.setIfInBounds_toArray, List.set_cons_zero, List.set_cons_succ]
 refine wpAnyH_ready (rs := [10]) (by kernel_rfl) (by simp) ?_
 refine AllReadyH.cons (o := { dst := some 13, op := _, type := _, pos := _, after := _, guard := _ }) rfl (fun K hK => ?_) AllReadyH.nil
 go_simp
 have hkf : Keeps (fun k => k = g) w.drew (w.drew.freeze ⟨g, 0, none⟩ l.length) := keeps_freeze w.drew ⟨g, 0, none⟩ l.length
 refine hK.out _ _ (hkf.cell_of c1 (fun e => hbg e.symm)) (fun hHeld => ?_)
 clear hK K
 refine tk 11 2 (.string ⟨l.toArray⟩) rfl (.inl ⟨by rfl, ?_⟩) hHeld ?_
 ·intro W9 hSW; (try dsimp only at hSW); go_simp
 try simp only [Act.put, List.setIfInBounds_toArray, List.set_cons_zero, List.set_cons_succ]
 refine wpAnyH_done (by kernel_rfl) ?_ _
 go_wp2_with fail
 go_ret
 exact ⟨rfl, Lib.below_freeze (Below.drew (Below.refl B w)) (p := ⟨g, 0, none⟩) hge _⟩
theorem pString_none (B b : Nat) (w : World) (c1 : w.cell? ⟨b, 1, none⟩ = some (.slice none 0 0)) : Calls Tryz.prog 37 #[.pointer (some ⟨b, 0, none⟩)] w fun e w' => e = .returned (.string ⟨#[]⟩) /\ Below B w w' := by
 have hSD : ∀ W, (Builtin.unsafeSliceData_ #[76] 121 #[.slice none 0 0]).run Tryz.prog W = .ok (.pointer none) W := fun W => by kernel_rfl
 have hUS : ∀ W, (Builtin.unsafeString_ #[121, 3] 9 #[.pointer none, .int .i64 0]).run Tryz.prog W = .ok (.string ⟨#[]⟩) W := fun W => by kernel_rfl
 go_enter Tryz.func37, Tryz.ntmps37
 go_wp2_with fail
 go_quiet (fail)
 go_wp2_with fail
 go_ret
 exact ⟨rfl, below_drewNs (Below.refl B w) _⟩
theorem pString_any (B b : Nat) (l : List UInt8) (w : World) (h : PC B b l w) : Calls Tryz.prog 37 #[.pointer (some ⟨b, 0, none⟩)] w fun e w' => e = .returned (.string ⟨l.toArray⟩) /\ Below B w w' := by
 cases l with
 | nil => exact pString_none B b w (h.2 rfl)
 | cons x r => exact pString_some B b (x :: r) w h.1 (by simp)
end Go.Proofs.YtjejcajnnbilmaaGreatDoor
namespace Go.Proofs.YtjejcajnnbilmaaGreatDoor
open Go.RowKit Lx Tr
def catV : List ByteArray -> List UInt8
 | [] => []
 | x :: xs => x.data.toList ++ catV xs
theorem catV_snoc : ∀ (l : List ByteArray) (x : ByteArray), catV (l ++ [x]) = catV l ++ x.data.toList
 | [], x => by simp [catV]
 | y :: l, x => by show y.data.toList ++ catV (l ++ [x]) = _; rw [catV_snoc l x, <- List.append_assoc]; rfl
theorem catV_take {ps : List ByteArray} {k : Nat} {x : ByteArray} (h : ps[k]? = some x) : catV (ps.take (k + 1)) = catV (ps.take k) ++ x.data.toList := by
 rw [List.take_add_one, h]
 exact catV_snoc _ _
theorem catV_le : ∀ (ps : List ByteArray) (k : Nat), (catV (ps.take k)).length <= (catV ps).length
 | [], k => by simp [catV]
 | x :: xs, 0 => Nat.zero_le _
 | x :: xs, k + 1 => by
  show (x.data.toList ++ catV (xs.take k)).length <= (x.data.toList ++ catV xs).length
  rw [List.length_append, List.length_append]
  exact Nat.add_le_add_left (catV_le xs k) _
theorem put_all (B b g cap : Nat) (l : List UInt8) (ps : List ByteArray) (xs : Array Value) (fz : Nat × Nat) (w : World) (h : PC B b l w) (hB : B <= w.heap.size) (hg : w.heap[g]? = some (Obj.cells xs 9 fz)) (hgb : g ≠ b) (hx : ∀ j x, ps[j]? = some x -> w.cell? ⟨g, j, none⟩ = some (.string x)) (hlen : l.length + (catV ps).length <= 1000000) (hn : ps.length <= 10000) :
  Calls Tryz.prog 65 #[.pointer (some ⟨b, 0, none⟩), .slice (some ⟨g, 0, none⟩) ps.length cap] w fun e w' => e = .returned (.tuple #[]) /\ PC B b (l ++ catV ps) w' /\ Below B w w' /\ Others b w w' := by
 have HI0 : Hid (PC B b (l ++ catV (ps.take 0)) w) := zz (by rw [List.take_zero]; show PC B b (l ++ []) w; rw [List.append_nil]; exact h)
 have HB := zz hB
 have HG := zz hg
 have HX := zz hx
 have HGB := zz hgb
 have HLEN := zz hlen
 clear h hB hg hgb hx hlen
 go_enter Tryz.func65, Tryz.ntmps65
 go_wp2_with fail
 go_loopw [8, 5] (fun i _ wr => ∃ k : Nat, k <= ps.length /\ i = .int .i64 k /\ PC B b (l ++ catV (ps.take k)) wr /\ Below B w wr /\ Others b w wr) (fun i _ _ => ps.length - (intOf i).toNat)
 case atStart => exact ⟨0, Nat.zero_le _, rfl, HI0.out, Below.refl _ _, Others.refl _ _⟩
 case round =>
  obtain ⟨k, hk, rfl, hp, hb, ho⟩ := hrel
  have HP := zz hp
  have HBL := zz hb
  have HO := zz ho
  clear hp hb ho
  by_cases hlt : k < ps.length
  ·obtain ⟨x, hkx⟩ : ∃ x, ps[k]? = some x := ⟨_, List.getElem?_eq_getElem hlt⟩
   have hgw := HO.out g xs 9 fz HGB.out (by decide) HG.out
   have c0 : wr.cell? ⟨g, k, none⟩ = some (.string x) := by
    have := HX.out k x hkx
    rw [Lib.cell_of_heap HG.out] at this
    rw [Lib.cell_of_heap hgw]; exact this
   have hki : (k : Int) < (ps.length : Int) := by omega
   have hkii : (0 : Int) <= (k : Int) /\ (k : Int) < (ps.length : Int) := by omega
   have hw : IntKind.i64.wrap ((k : Int) + 1) = (k : Int) + 1 := IntWalk.i64_in _ (by omega)
   have HKX := zz hkx
   have hlen2 : (l ++ catV (ps.take k)).length + x.size <= 1000000 := by
    have h1 := catV_le ps (k + 1)
    rw [catV_take hkx, List.length_append] at h1
    have h2 : x.data.toList.length = x.size := by simp
    rw [List.length_append]
    have := HLEN.out
    omega
   have HWR := zz (pWrite_any B b (l ++ catV (ps.take k)) x wr HP.out hlen2 (Nat.le_trans HB.out HBL.out.size))
   clear hgw hkx hlen2
   go_wp2_with fail
   refine HWR.out.mono ?_
   rintro e w2 ⟨rfl, hp2, hb2, ho2⟩
   have HP2 := zz hp2
   have HB2 := zz hb2
   have HO2 := zz ho2
   clear hp2 hb2 ho2
   go_wp2_with fail
   refine ⟨⟨k + 1, by omega, by simp, ?_, HBL.out.trans HB2.out, HO.out.trans HO2.out⟩, ?_⟩
   ·rw [catV_take HKX.out, <- List.append_assoc]; exact HP2.out
   ·simp [intOf]; omega
  ·have hki : ¬ (k : Int) < (ps.length : Int) := by omega
   have hkk : k = ps.length := by omega
   have HKK := zz hkk
   clear hkk
   go_wp2_with fail
   go_end0
   refine ⟨rfl, ?_, HBL.out, HO.out⟩
   have h1 := HP.out
   rw [HKK.out, List.take_length] at h1
   exact h1
end Go.Proofs.YtjejcajnnbilmaaGreatDoor
namespace Go.Proofs.YtjejcajnnbilmaaGreatDoor
open Go.RowKit Lx Tr
variable {w w' : World}
def sgV (op : Nat) : B := if op = 30 then [38, 38] else if op = 31 then [124, 124] else signL op
def sOfB (n : Nat) : B := Lib.itoa (n : Int)
def exW (least : Nat) (x : Ex) (bare : B) : B := match x with
 | .nil => []
 | .mk code _ _ op _ _ _ _ => if code = 5 /\ levV op < least then [40] ++ (bare ++ [41]) else bare
mutual
def bareV : Ex -> B
 | .nil => []
 | .mk code _ n op name l r args =>
  if code = 1 then sOfB n
  else if code = 2 then (if n = 0 then tFalse else tTrue)
  else if code = 3 then tNil
  else if code = 4 then name
  else if code = 5 then exW (levV op) l (bareV l) ++ ([32] ++ (sgV op ++ ([32] ++ exW (levV op + 1) r (bareV r))))
  else if code = 6 then signL op ++ exW 6 l (bareV l)
  else if code = 10 then tArrow ++ exW 6 l (bareV l)
  else if code = 8 then tMake ++ ([40] ++ (exW 1 l (bareV l) ++ [41]))
  else if code = 9 then tLen ++ ([40] ++ (exW 1 l (bareV l) ++ [41]))
  else if code = 7 then name ++ ([40] ++ (argV true args ++ [41]))
  else []
def argV : Bool -> Exs -> B
 | _, .nil => []
 | first, .cons x xs => (if first then [] else [44, 32]) ++ (exW 1 x (bareV x) ++ argV false xs)
end
def exV (least : Nat) (x : Ex) : B := exW least x (bareV x)
theorem PB.fresh {B b : Nat} {l : List UInt8} (h : PB B b l w) (hb : Below w.heap.size w w') : PB B b l w' := by
 have key : ∀ p, Lib.BuilderAt 80 5 B b p (Lib.byteCells l) w -> Lib.BuilderAt 80 5 B b p (Lib.byteCells l) w' := fun p ⟨h1, v, h2, h3, h4⟩ =>
  ⟨h1, v, by rw [hb.block b (Array.getElem?_eq_some_iff.1 h2).1]; exact h2, (Keeps.of_new (S := fun _ => False) hb).row h3 (fun _ _ e => e), h4⟩
 exact h.imp (key _) (key _)
theorem PB.lt {B b : Nat} {l : List UInt8} (h : PB B b l w) : b < w.heap.size := by
 rcases h with ⟨_, v, h2, _⟩ | ⟨_, v, h2, _⟩ <;> exact (Array.getElem?_eq_some_iff.1 h2).1
theorem PC.fresh {B b : Nat} {l : List UInt8} (h : PC B b l w) (hb : Below w.heap.size w w') : PC B b l w' :=
 ⟨h.1.fresh hb, fun e => by rw [hb.cell (p := ⟨b, 1, none⟩) h.1.lt]; exact h.2 e⟩
theorem Others.of_new {b : Nat} (hb : Below w.heap.size w w') : Others b w w' := fun k xs e fz _ _ h => by rw [hb.block k (Array.getElem?_eq_some_iff.1 h).1]; exact h
theorem put_new (B b : Nat) (l : List UInt8) (ps : List ByteArray) (w : World) (h : PC B b l w) (hB : B <= w.heap.size) (hlen : l.length + (catV ps).length <= 1000000) (hn : ps.length <= 10000) :
  Calls Tryz.prog 65 #[.pointer (some ⟨b, 0, none⟩), .slice (some ⟨w.heap.size, 0, none⟩) ps.length ps.length] (w.alloc (.cells (ps.map Value.string).toArray 9)) fun e w' => e = .returned (.tuple #[]) /\ PC B b (l ++ catV ps) w' /\ Below B w w' /\ Others b w w' := by
 have hb : Below w.heap.size w (w.alloc (.cells (ps.map Value.string).toArray 9)) := ((Keeps.refl (fun _ => False) w).alloc _).below (Nat.le_refl _) (fun _ _ e => e.elim)
 have hlt := h.1.lt
 refine (put_all B b w.heap.size ps.length l ps (ps.map Value.string).toArray (0, 0) _ (h.fresh hb) (Nat.le_trans hB hb.size) (heap_alloc_new w _) (by omega) (fun j x hj => cell_new _ _ _ j _ (by simp [hj]) rfl) hlen hn).mono ?_
 rintro e w' ⟨rfl, h1, h2, h3⟩
 exact ⟨rfl, h1, (hb.mono hB).trans h2, (Others.of_new hb).trans h3⟩
end Go.Proofs.YtjejcajnnbilmaaGreatDoor
namespace Go.Proofs.YtjejcajnnbilmaaGreatDoor
open Lx Tr
namespace Tr
theorem numV_snoc (l : B) (c : UInt8) : numV (l ++ [c]) = numV l * 10 + (c.toNat - 48) := by
 unfold numV
 rw [List.foldl_append]
 rfl
theorem digV_all : ∀ {l : B}, (∀ c ∈ l, isDg c = true) -> digV l = l.length
 | [], _ => rfl
 | c :: r, h => by rw [digV_cons (h c (List.mem_cons_self ..)), digV_all (fun x hx => h x (List.mem_cons_of_mem _ hx)), List.length_cons]
theorem dec_num (k : Nat) : ∀ n, n <= k -> (∀ c ∈ Lib.decDigits n, isDg c = true) /\ Lib.decDigits n ≠ [] /\ numV (Lib.decDigits n) = n /\ (10 <= n -> (Lib.decDigits n).head? ≠ some 48 /\ 1 < (Lib.decDigits n).length) /\ (n < 10 -> (Lib.decDigits n).length = 1) /\ (0 < n -> (Lib.decDigits n).head? ≠ some 48) := by
 induction k with
 | zero =>
  intro n hn
  obtain rfl : n = 0 := by omega
  rw [Lib.decDigits, dif_pos (by decide)]
  refine ⟨fun c hc => ?_, by simp, by decide, fun h => absurd h (by decide), fun _ => rfl, fun h => absurd h (by decide)⟩
  rw [List.mem_singleton.1 hc]
  decide
 | succ k ih =>
  intro n hn
  by_cases h : n < 10
  ·rw [Lib.decDigits, dif_pos h]
   obtain ⟨q1, q2⟩ := dig_of n h
   refine ⟨fun c hc => ?_, by simp, ?_, fun h2 => absurd h2 (by omega), fun _ => rfl, fun h2 e => ?_⟩
   ·rw [List.mem_singleton.1 hc]; exact q1
   ·show 0 * 10 + ((UInt8.ofNat (48 + n)).toNat - 48) = n
    rw [q2]; omega
   ·have e2 : UInt8.ofNat (48 + n) = 48 := Option.some.inj e
    have e3 : (UInt8.ofNat (48 + n)).toNat - 48 = 0 := by rw [e2]; rfl
    omega
  ·rw [Lib.decDigits, dif_neg h]
   obtain ⟨a1, a2, a3, a4, a5, a6⟩ := ih (n / 10) (by omega)
   obtain ⟨q1, q2⟩ := dig_of (n % 10) (by omega)
   have hh : (Lib.decDigits (n / 10) ++ [UInt8.ofNat (48 + n % 10)]).head? = (Lib.decDigits (n / 10)).head? := by
    cases hq : Lib.decDigits (n / 10) with
    | nil => exact absurd hq a2
    | cons x xs => rfl
   have hlen : 0 < (Lib.decDigits (n / 10)).length := List.length_pos_iff.2 a2
   refine ⟨fun c hc => ?_, by simp, ?_, fun _ => ⟨by rw [hh]; exact a6 (by omega), by rw [List.length_append]; simp; omega⟩, fun h2 => absurd h2 (by omega), fun _ => by rw [hh]; exact a6 (by omega)⟩
   ·rcases List.mem_append.1 hc with hc | hc
    ·exact a1 c hc
    ·rw [List.mem_singleton.1 hc]; exact q1
   ·rw [numV_snoc, a3, q2]; omega
theorem num_of (n : Nat) (h : n <= 9223372036854775807) : NumT (sOfB n) /\ numV (sOfB n) = n := by
 have e : sOfB n = Lib.decDigits n := by
  unfold sOfB Lib.itoa
  rw [if_neg (by omega)]
  rfl
 obtain ⟨a1, a2, a3, a4, a5, a6⟩ := dec_num n n (Nat.le_refl _)
 rw [e]
 refine ⟨⟨digV_all a1, a2, fun h1 => ?_, by rw [a3]; exact h⟩, a3⟩
 by_cases h2 : n < 10
 ·rw [a5 h2] at h1; exact absurd h1 (by decide)
 ·exact (a4 (by omega)).1
def brk (least : Nat) (x : Ex) : Nat := match x with
 | .nil => 0
 | .mk code _ _ op _ _ _ _ => if code = 5 /\ levV op < least then 1 else 0
mutual
def GoodB : Ex -> Nat -> Prop
 | .nil, _ => False
 | .mk code _ n op nm l r zs, d => d <= 12 /\ (
  (code = 1 /\ n <= 9223372036854775807 /\ op = 0 /\ nm = [] /\ l = .nil /\ r = .nil /\ zs = .nil) ∨
  (code = 2 /\ n <= 1 /\ op = 0 /\ nm = [] /\ l = .nil /\ r = .nil /\ zs = .nil) ∨
  (code = 3 /\ n = 0 /\ op = 0 /\ nm = [] /\ l = .nil /\ r = .nil /\ zs = .nil) ∨
  (code = 4 /\ n = 0 /\ op = 0 /\ WordT 1 nm /\ l = .nil /\ r = .nil /\ zs = .nil) ∨
  (code = 5 /\ n = 0 /\ nm = [] /\ zs = .nil /\ 1 <= levV op /\ GoodB l (d + brk (levV op) l) /\ GoodB r (d + brk (levV op + 1) r)) ∨
  (code = 6 /\ n = 0 /\ nm = [] /\ r = .nil /\ zs = .nil /\ (op = 17 \/ op = 18 \/ op = 19) /\ GoodB l (d + 1 + brk 6 l)) ∨
  (code = 10 /\ n = 0 /\ op = 0 /\ nm = [] /\ r = .nil /\ zs = .nil /\ GoodB l (d + 1 + brk 6 l)) ∨
  ((code = 8 \/ code = 9) /\ n = 0 /\ op = 0 /\ nm = [] /\ r = .nil /\ zs = .nil /\ GoodB l (d + 1)) ∨
  (code = 7 /\ n = 0 /\ op = 0 /\ WordT 1 nm /\ l = .nil /\ r = .nil /\ GoodAs zs (d + 1)))
def GoodAs : Exs -> Nat -> Prop
 | .nil, _ => True
 | .cons x xs, d => GoodB x d /\ GoodAs xs d
end
def exWT (least : Nat) (x : Ex) (ks : List (Nat × B)) : List (Nat × B) := match x with
 | .nil => []
 | .mk code _ _ op _ _ _ _ => if code = 5 /\ levV op < least then [(4, [40])] ++ (ks ++ [(4, [41])]) else ks
mutual
def bareT : Ex -> List (Nat × B)
 | .nil => []
 | .mk code _ n op name l r args =>
  if code = 1 then [(3, sOfB n)]
  else if code = 2 then [(2, if n = 0 then tFalse else tTrue)]
  else if code = 3 then [(2, tNil)]
  else if code = 4 then [(1, name)]
  else if code = 5 then exWT (levV op) l (bareT l) ++ ([(4, sgV op)] ++ exWT (levV op + 1) r (bareT r))
  else if code = 6 then [(4, signL op)] ++ exWT 6 l (bareT l)
  else if code = 10 then [(4, tArrow)] ++ exWT 6 l (bareT l)
  else if code = 8 then [(2, tMake)] ++ ([(4, [40])] ++ (exWT 1 l (bareT l) ++ [(4, [41])]))
  else if code = 9 then [(2, tLen)] ++ ([(4, [40])] ++ (exWT 1 l (bareT l) ++ [(4, [41])]))
  else if code = 7 then [(1, name)] ++ ([(4, [40])] ++ (argT true args ++ [(4, [41])]))
  else []
def argT : Bool -> Exs -> List (Nat × B)
 | _, .nil => []
 | first, .cons x xs => (if first then [] else [(4, [44])]) ++ (exWT 1 x (bareT x) ++ argT false xs)
end
def exT (least : Nat) (x : Ex) : List (Nat × B) := exWT least x (bareT x)
theorem bd_32 : Bd 32 := by unfold Bd; decide
theorem bd_10 : Bd 10 := by unfold Bd; decide
theorem bd_40 : Bd 40 := by unfold Bd; decide
theorem bd_41 : Bd 41 := by unfold Bd; decide
theorem bd_44 : Bd 44 := by unfold Bd; decide
theorem bd_58 : Bd 58 := by unfold Bd; decide
theorem key_word {t : B} (h : wordV t = t.length /\ 0 < letV t /\ isKeyV t = true) : WordT 2 t := ⟨h.1, h.2.1, by rw [if_pos h.2.2], fun e => absurd e (by decide)⟩
theorem lev_sig : ∀ op, op < 32 -> 1 <= levV op -> sgV op ∈ sigsL /\ opV (sgV op) = op /\ mayV 4 (sgV op) = false /\ levV op <= 5 := by decide
theorem lev_lt {op : Nat} (h : 1 <= levV op) : op < 32 := by
 unfold levV at h
 repeat' split at h
 all_goals omega
structure LexE (t : B) (ks : List (Nat × B)) : Prop where
 head : t ≠ [] /\ t.head? ≠ some 61
 cut : ∀ r, BdR r -> Lz t ks (fun _ => true) r
theorem LexE.brackets {t : B} {ks : List (Nat × B)} (h : LexE t ks) : LexE ([40] ++ (t ++ [41])) ([(4, [40])] ++ (ks ++ [(4, [41])])) :=
 ⟨⟨by simp, by simp⟩, fun r _ => (Lz.sig (sig_lp _)).app ((h.cut _ (BdR.cons bd_41)).app (Lz.sig (sig_rp r)))⟩
theorem LexE.w {x : Ex} {least : Nat} (h : LexE (bareV x) (bareT x)) : LexE (exV least x) (exT least x) := by
 unfold exV exT exW exWT
 cases x with
 | nil => exact absurd rfl h.head.1
 | mk code at_ n op nm l r zs =>
  by_cases c : code = 5 /\ levV op < least
  ·simp only [if_pos c]; exact h.brackets
  ·simp only [if_neg c]; exact h
theorem head_app {t u : B} (h : t ≠ [] /\ t.head? ≠ some 61) : t ++ u ≠ [] /\ (t ++ u).head? ≠ some 61 := by
 cases t with
 | nil => exact absurd rfl h.1
 | cons c x => exact ⟨by simp, h.2⟩
theorem word_head {k : Nat} {t : B} (h : WordT k t) : t ≠ [] /\ t.head? ≠ some 61 := by
 refine ⟨h.ne, fun e => ?_⟩
 cases t with
 | nil => cases e
 | cons b r => exact (letV_head h.letter).2.2.2.2.2 (Option.some.inj e)
theorem lex_un {z t : B} {ks : List (Nat × B)} (hz : z = [45] \/ z = [94] \/ z = [33] \/ z = [60, 45]) (h : LexE t ks) : LexE (z ++ t) ([(4, z)] ++ ks) := by
 refine ⟨?_, fun r hr => ?_⟩
 ·rcases hz with rfl | rfl | rfl | rfl <;> exact ⟨by simp, by simp⟩
 ·have hs : SigT z (t ++ r) := by
   rcases hz with rfl | rfl | rfl | rfl
   ·exact sig_minus _
   ·exact sig_hat _
   ·exact sig_not (head_app h.head).2
   ·exact sig_arrow _
  exact (Lz.sig hs).app (h.cut r hr)
theorem lex_call {k : Nat} {w t : B} {ks : List (Nat × B)} (hw : WordT k w) (h : ∀ r, BdR r -> Lz t ks (fun m => m) r \/ Lz t ks (fun _ => true) r) : LexE (w ++ ([40] ++ (t ++ [41]))) ([(k, w)] ++ ([(4, [40])] ++ (ks ++ [(4, [41])]))) := by
 refine ⟨head_app (word_head hw), fun r _ => ?_⟩
 rcases h ([41] ++ r) (BdR.cons bd_41) with h1 | h1
 ·exact (Lz.word hw (BdR.cons bd_40)).app ((Lz.sig (sig_lp _)).app (h1.app (Lz.sig (sig_rp r))))
 ·exact (Lz.word hw (BdR.cons bd_40)).app ((Lz.sig (sig_lp _)).app (h1.app (Lz.sig (sig_rp r))))
theorem num_head {t : B} (h : NumT t) : t ≠ [] /\ t.head? ≠ some 61 := by
 refine ⟨h.pos, fun e => ?_⟩
 have hd := h.digits
 cases t with
 | nil => cases e
 | cons b r =>
  have e2 : b = 61 := Option.some.inj e
  subst e2
  rw [digV_no (by decide)] at hd
  cases hd
theorem bare_bin {a n op : Nat} {nm : B} {l r : Ex} {zs : Exs} : bareV (.mk 5 a n op nm l r zs) = exV (levV op) l ++ ([32] ++ (sgV op ++ ([32] ++ exV (levV op + 1) r))) /\ bareT (.mk 5 a n op nm l r zs) = exT (levV op) l ++ ([(4, sgV op)] ++ exT (levV op + 1) r) := ⟨by rw [bareV]; rfl, by rw [bareT]; rfl⟩
theorem bare_un {a n op : Nat} {nm : B} {l r : Ex} {zs : Exs} : bareV (.mk 6 a n op nm l r zs) = signL op ++ exV 6 l /\ bareT (.mk 6 a n op nm l r zs) = [(4, signL op)] ++ exT 6 l := ⟨by rw [bareV]; rfl, by rw [bareT]; rfl⟩
theorem bare_recv {a n op : Nat} {nm : B} {l r : Ex} {zs : Exs} : bareV (.mk 10 a n op nm l r zs) = tArrow ++ exV 6 l /\ bareT (.mk 10 a n op nm l r zs) = [(4, tArrow)] ++ exT 6 l := ⟨by rw [bareV]; rfl, by rw [bareT]; rfl⟩
theorem bare_make {a n op : Nat} {nm : B} {l r : Ex} {zs : Exs} : bareV (.mk 8 a n op nm l r zs) = tMake ++ ([40] ++ (exV 1 l ++ [41])) /\ bareT (.mk 8 a n op nm l r zs) = [(2, tMake)] ++ ([(4, [40])] ++ (exT 1 l ++ [(4, [41])])) := ⟨by rw [bareV]; rfl, by rw [bareT]; rfl⟩
theorem bare_len {a n op : Nat} {nm : B} {l r : Ex} {zs : Exs} : bareV (.mk 9 a n op nm l r zs) = tLen ++ ([40] ++ (exV 1 l ++ [41])) /\ bareT (.mk 9 a n op nm l r zs) = [(2, tLen)] ++ ([(4, [40])] ++ (exT 1 l ++ [(4, [41])])) := ⟨by rw [bareV]; rfl, by rw [bareT]; rfl⟩
theorem bare_call {a n op : Nat} {nm : B} {l r : Ex} {zs : Exs} : bareV (.mk 7 a n op nm l r zs) = nm ++ ([40] ++ (argV true zs ++ [41])) /\ bareT (.mk 7 a n op nm l r zs) = [(1, nm)] ++ ([(4, [40])] ++ (argT true zs ++ [(4, [41])])) := ⟨by rw [bareV]; rfl, by rw [bareT]; rfl⟩
def nilE : Exs -> Bool
 | .nil => true
 | .cons _ _ => false
theorem kw_true : WordT 2 tTrue := key_word (by decide)
theorem kw_false : WordT 2 tFalse := key_word (by decide)
theorem kw_nil : WordT 2 tNil := key_word (by decide)
theorem kw_make : WordT 2 tMake := key_word (by decide)
theorem kw_len : WordT 2 tLen := key_word (by decide)
mutual
theorem lex_ex : ∀ (x : Ex) (d : Nat), GoodB x d -> LexE (bareV x) (bareT x)
 | .nil, _, h => by rw [GoodB] at h; exact h.elim
 | .mk code a n op nm l r zs, d, h => by
  rw [GoodB] at h
  obtain ⟨_, h⟩ := h
  rcases h with ⟨rfl, h1, _⟩ | ⟨rfl, h1, _⟩ | ⟨rfl, _⟩ | ⟨rfl, _, _, h1, _⟩ | ⟨rfl, _, _, _, hv, h1, h2⟩ | ⟨rfl, _, _, _, _, ho, h1⟩ | ⟨rfl, _, _, _, _, _, h1⟩ | ⟨rfl | rfl, _, _, _, _, _, h1⟩ | ⟨rfl, _, _, hw, _, _, h1⟩
  ·have e1 : bareV (.mk 1 a n op nm l r zs) = sOfB n := by rw [bareV]; rfl
   have e2 : bareT (.mk 1 a n op nm l r zs) = [(3, sOfB n)] := by rw [bareT]; rfl
   rw [e1, e2]
   exact ⟨num_head (num_of n h1).1, fun r hr => Lz.num (num_of n h1).1 hr⟩
  ·have e1 : bareV (.mk 2 a n op nm l r zs) = if n = 0 then tFalse else tTrue := by rw [bareV]; rfl
   have e2 : bareT (.mk 2 a n op nm l r zs) = [(2, if n = 0 then tFalse else tTrue)] := by rw [bareT]; rfl
   rw [e1, e2]
   by_cases c : n = 0
   ·rw [if_pos c]; exact ⟨word_head kw_false, fun r hr => Lz.word kw_false hr⟩
   ·rw [if_neg c]; exact ⟨word_head kw_true, fun r hr => Lz.word kw_true hr⟩
  ·have e1 : bareV (.mk 3 a n op nm l r zs) = tNil := by rw [bareV]; rfl
   have e2 : bareT (.mk 3 a n op nm l r zs) = [(2, tNil)] := by rw [bareT]; rfl
   rw [e1, e2]
   exact ⟨word_head kw_nil, fun r hr => Lz.word kw_nil hr⟩
  ·have e1 : bareV (.mk 4 a n op nm l r zs) = nm := by rw [bareV]; rfl
   have e2 : bareT (.mk 4 a n op nm l r zs) = [(1, nm)] := by rw [bareT]; rfl
   rw [e1, e2]
   exact ⟨word_head h1, fun r hr => Lz.word h1 hr⟩
  ·rw [bare_bin.1, bare_bin.2]
   have k1 := (lex_ex l _ h1).w (least := levV op)
   have k2 := (lex_ex r _ h2).w (least := levV op + 1)
   exact ⟨head_app k1.head, fun r hr => (k1.cut _ (BdR.cons bd_32)).app ((Lz.sp _).app ((Lz.sig (SigT.stop (lev_sig op (lev_lt hv) hv).1 stop_32)).app ((Lz.sp _).app (k2.cut r hr))))⟩
  ·rw [bare_un.1, bare_un.2]
   exact lex_un (by rcases ho with rfl | rfl | rfl <;> decide) ((lex_ex l _ h1).w)
  ·rw [bare_recv.1, bare_recv.2]
   exact lex_un (Or.inr (Or.inr (Or.inr rfl))) ((lex_ex l _ h1).w)
  ·rw [bare_make.1, bare_make.2]
   exact lex_call kw_make (fun r hr => Or.inr (((lex_ex l _ h1).w).cut r hr))
  ·rw [bare_len.1, bare_len.2]
   exact lex_call kw_len (fun r hr => Or.inr (((lex_ex l _ h1).w).cut r hr))
  ·rw [bare_call.1, bare_call.2]
   refine lex_call hw (fun r hr => ?_)
   have k := lex_as zs true _ h1 r hr
   cases zs with
   | nil => exact Or.inl k
   | cons y ys => exact Or.inr k
theorem lex_as : ∀ (zs : Exs) (f : Bool) (d : Nat), GoodAs zs d -> ∀ r, BdR r -> Lz (argV f zs) (argT f zs) (fun m => if nilE zs then m else true) r
 | .nil, f, _, _, r, _ => by rw [argV, argT]; exact Lz.nil r
 | .cons x xs, f, d, h, r, hr => by
  rw [GoodAs] at h
  rw [argV, argT]
  have k1 := (lex_ex x d h.1).w (least := 1)
  have k2 := lex_as xs false d h.2 r hr
  have hb : BdR (argV false xs ++ r) := by
   cases xs with
   | nil => rw [argV]; exact hr
   | cons y ys => rw [argV]; exact BdR.cons bd_44
  have k3 : Lz (exV 1 x ++ argV false xs) (exT 1 x ++ argT false xs) (fun _ => true) r := by
   have := (k1.cut _ hb).app k2
   cases xs with
   | nil => exact this
   | cons y ys => exact this
  cases f with
  | true => exact k3
  | false =>
   have k4 : Lz ([44] ++ [32]) ([(4, [44])] ++ []) (id ∘ fun _ => mayV 4 [44]) ((exV 1 x ++ argV false xs) ++ r) := (Lz.sig (sig_comma _)).app (Lz.sp _)
   exact k4.app k3
end
def At (E : Env) (n : Nat) (ks : List (Nat × B)) : Prop := ∀ i q, ks[i]? = some q -> (pk E (n + i)).kind = q.1 /\ (pk E (n + i)).text = q.2
theorem At.left {E : Env} {n : Nat} {k1 k2 : List (Nat × B)} (h : At E n (k1 ++ k2)) : At E n k1 := fun i q hi => h i q (by rw [List.getElem?_append_left (List.getElem?_eq_some_iff.1 hi).1]; exact hi)
theorem At.right {E : Env} {n : Nat} {k1 k2 : List (Nat × B)} (h : At E n (k1 ++ k2)) : At E (n + k1.length) k2 := fun i q hi => by
 have := h (k1.length + i) q (by rw [List.getElem?_append_right (by omega), Nat.add_sub_cancel_left]; exact hi)
 rw [Nat.add_assoc]; exact this
theorem At.head {E : Env} {n k : Nat} {t : B} {ks : List (Nat × B)} (h : At E n ((k, t) :: ks)) : (pk E n).kind = k /\ (pk E n).text = t := h 0 (k, t) rfl
theorem At.tail {E : Env} {n k : Nat} {t : B} {ks : List (Nat × B)} (h : At E n ((k, t) :: ks)) : At E (n + 1) ks := At.right (k1 := [(k, t)]) h
def tl (E : Env) (f k d : Nat) (x : Ex) (m : Nat) : Res Ex := if k = 6 then .ok x m else tloop E f k d x m
def TiedOk (x : Ex) (k : Nat) : Prop := ∀ (E : Env) (d n : Nat), GoodB x (d + brk k x) -> At E n (exT k x) -> levV (opV (pk E (n + (exT k x).length)).text) <= k -> (pk E (n + (exT k x).length)).text ≠ [40] ->
 ∃ x', exE x' = exE x /\ ∀ r, Ev (fun f => tl E f k d x' (n + (exT k x).length)) r -> Ev (fun f => tied E f k d n) r
def OneOk (x : Ex) : Prop := ∀ (E : Env) (d n : Nat), GoodB x (d + brk 6 x) -> At E n (exT 6 x) -> (pk E (n + (exT 6 x).length)).text ≠ [40] ->
 ∃ x', exE x' = exE x /\ Ev (fun f => one E f d n) (.ok x' (n + (exT 6 x).length))
theorem TiedOk.closed {x : Ex} {k : Nat} (h : TiedOk x k) {E : Env} {d n : Nat} (hg : GoodB x (d + brk k x)) (ha : At E n (exT k x)) (hl : levV (opV (pk E (n + (exT k x).length)).text) < k) (hn : (pk E (n + (exT k x).length)).text ≠ [40]) :
  ∃ x', exE x' = exE x /\ Ev (fun f => tied E f k d n) (.ok x' (n + (exT k x).length)) := by
 obtain ⟨x', e, hr⟩ := h E d n hg ha (Nat.le_of_lt hl) hn
 refine ⟨x', e, hr _ ?_⟩
 by_cases h6 : k = 6
 ·exact Ev.pure (fun e => by cases e) (fun f => by unfold tl; rw [if_pos h6])
 ·refine Ev.now (fun e => by cases e) (fun f => ?_)
  unfold tl
  rw [if_neg h6, tloop_eq, if_neg (by omega)]
theorem TiedOk.six {x : Ex} (h : OneOk x) : TiedOk x 6 := fun E d n hg ha _ hn => by
 obtain ⟨x', e, hev⟩ := h E d n hg ha hn
 refine ⟨x', e, fun r hr => ?_⟩
 have hr' : r = .ok x' (n + (exT 6 x).length) := Ev.det hr (Ev.pure (fun e => by cases e) (fun f => by unfold tl; rw [if_pos rfl]))
 rw [hr']
 exact Ev.step (fun f => by rw [tied_eq, if_pos rfl]) hev
theorem TiedOk.down {x : Ex} {k : Nat} (h : TiedOk x (k + 1)) (hk : k <= 5) (he : exT k x = exT (k + 1) x) (hb : brk k x = brk (k + 1) x) : TiedOk x k := fun E d n hg ha hl hn => by
 rw [he] at ha hl hn ⊢
 rw [hb] at hg
 obtain ⟨x', e, hev⟩ := h.closed hg ha (by omega) hn
 refine ⟨x', e, fun r hr => ?_⟩
 refine Ev.step (h := fun f => (tied E f (k + 1) d n).bind fun x m => tloop E f k d x m) (fun f => by rw [tied_eq, if_neg (by omega)]) (Ev.then hev ?_)
 have e2 : (fun f => tl E f k d x' (n + (exT (k + 1) x).length)) = fun f => tloop E f k d x' (n + (exT (k + 1) x).length) := funext fun f => by unfold tl; rw [if_neg (by omega)]
 rw [e2] at hr
 exact hr
theorem exWT_yes {least code a n op : Nat} {nm : B} {l r : Ex} {zs : Exs} {ks : List (Nat × B)} (h : code = 5 /\ levV op < least) : exWT least (.mk code a n op nm l r zs) ks = [(4, [40])] ++ (ks ++ [(4, [41])]) := if_pos h
theorem exWT_no {least code a n op : Nat} {nm : B} {l r : Ex} {zs : Exs} {ks : List (Nat × B)} (h : ¬ (code = 5 /\ levV op < least)) : exWT least (.mk code a n op nm l r zs) ks = ks := if_neg h
theorem brk_yes {least code a n op : Nat} {nm : B} {l r : Ex} {zs : Exs} (h : code = 5 /\ levV op < least) : brk least (.mk code a n op nm l r zs) = 1 := if_pos h
theorem brk_no {least code a n op : Nat} {nm : B} {l r : Ex} {zs : Exs} (h : ¬ (code = 5 /\ levV op < least)) : brk least (.mk code a n op nm l r zs) = 0 := if_neg h
theorem exT_same {x : Ex} {k : Nat} (h : ∀ a n op nm l r zs, x = .mk 5 a n op nm l r zs -> levV op ≠ k) : exT k x = exT (k + 1) x /\ brk k x = brk (k + 1) x := by
 cases x with
 | nil => exact ⟨rfl, rfl⟩
 | mk code a n op nm l r zs =>
  unfold exT
  by_cases c : code = 5
  ·subst c
   have h1 := h a n op nm l r zs rfl
   by_cases c2 : levV op < k
   ·rw [exWT_yes ⟨rfl, c2⟩, exWT_yes ⟨rfl, by omega⟩, brk_yes ⟨rfl, c2⟩, brk_yes ⟨rfl, by omega⟩]
    exact ⟨rfl, rfl⟩
   ·rw [exWT_no (fun e => c2 e.2), exWT_no (fun e => by have := e.2; omega), brk_no (fun e => c2 e.2), brk_no (fun e => by have := e.2; omega)]
    exact ⟨rfl, rfl⟩
  ·rw [exWT_no (fun e => c e.1), exWT_no (fun e => c e.1), brk_no (fun e => c e.1), brk_no (fun e => c e.1)]
   exact ⟨rfl, rfl⟩
theorem tied_all {x : Ex} (h : OneOk x) (hx : ∀ a n op nm l r zs, x ≠ .mk 5 a n op nm l r zs) : ∀ j k, k + j = 6 -> TiedOk x k
  | 0, k, e => by obtain rfl : k = 6 := by omega
                  exact TiedOk.six h
  | j + 1, k, e => by
    obtain ⟨e1, e2⟩ := exT_same (x := x) (k := k) (fun a n op nm l r zs e => absurd e (hx a n op nm l r zs))
    exact (tied_all h hx j (k + 1) (by omega)).down (by omega) e1 e2
theorem take_ev {E : Env} {t : B} {n : Nat} (h : (pk E n).text = t) : take E t n = .ok (pk E n) (n + 1) := by unfold take; rw [if_pos h]
theorem bracketed_ev {E : Env} {d n m : Nat} {x : Ex} (h1 : (pk E n).text = [40]) (h2 : Ev (fun f => tied E f 1 (d + 1) (n + 1)) (.ok x m)) (h3 : (pk E m).text = [41]) : Ev (fun f => bracketed E f d n) (.ok x (m + 1)) := by
 refine Ev.step (h := fun f => (tied E f 1 (d + 1) (n + 1)).bind fun x n2 => (take E tRp n2).bind fun _ n3 => .ok x n3) (fun f => ?_) (Ev.then h2 ?_)
 ·rw [bracketed_eq, take_ev (show (pk E n).text = tLp from h1)]
  rfl
 ·exact Ev.pure (fun e => by cases e) (fun f => by rw [take_ev (show (pk E m).text = tRp from h3)]; rfl)
theorem lev41 : levV (opV [41]) = 0 := by decide
theorem lev44 : levV (opV [44]) = 0 := by decide
def appE : Exs -> Exs -> Exs
 | acc, .nil => acc
 | acc, .cons x xs => appE (acc.snoc x) xs
theorem appE_cons (a : Ex) : ∀ (zs acc : Exs), appE (.cons a acc) zs = .cons a (appE acc zs)
 | .nil, _ => rfl
 | .cons x xs, acc => appE_cons a xs (acc.snoc x)
theorem appE_nil : ∀ zs : Exs, appE .nil zs = zs
 | .nil => rfl
 | .cons x xs => by
  show appE (.cons x .nil) xs = _
  rw [appE_cons, appE_nil xs]
def All (x : Ex) : Prop := OneOk x /\ ∀ k, 1 <= k -> k <= 6 -> TiedOk x k
def AllAs : Exs -> Prop
 | .nil => True
 | .cons x xs => All x /\ AllAs xs
theorem brk_one {x : Ex} {d : Nat} (h : GoodB x d) : brk 1 x = 0 := by
 cases x with
 | nil => rfl
 | mk code a n op nm l r zs =>
  refine brk_no ?_
  rintro ⟨rfl, e⟩
  rw [GoodB] at h
  obtain ⟨_, h⟩ := h
  rcases h with ⟨h, _⟩ | ⟨h, _⟩ | ⟨h, _⟩ | ⟨h, _⟩ | ⟨_, _, _, _, h, _⟩ | ⟨h, _⟩ | ⟨h, _⟩ | ⟨h, _⟩ | ⟨h, _⟩
  all_goals omega
theorem br_any {l : Ex} (h : TiedOk l 1) {E : Env} {d n : Nat} (hg : GoodB l (d + 1)) (ha : At E n ([(4, [40])] ++ (exT 1 l ++ [(4, [41])]))) : ∃ x', exE x' = exE l /\ Ev (fun f => bracketed E f d n) (.ok x' (n + 1 + (exT 1 l).length + 1)) := by
 obtain ⟨hk, ht⟩ := At.head (ks := exT 1 l ++ [(4, [41])]) ha
 have ha2 : At E (n + 1) (exT 1 l ++ [(4, [41])]) := At.tail (t := [40]) ha
 have h41 : (pk E (n + 1 + (exT 1 l).length)).text = [41] := (At.head (ks := []) ha2.right).2
 obtain ⟨x', e, hev⟩ := h.closed (d := d + 1) (by rw [brk_one hg]; exact hg) ha2.left (by rw [h41, lev41]; decide) (by rw [h41]; decide)
 exact ⟨x', e, bracketed_ev ht hev h41⟩
theorem args_any : ∀ (zs acc acc' : Exs) {E : Env} {d n : Nat}, zs ≠ .nil -> AllAs zs -> GoodAs zs (d + 1) -> At E n (argT true zs ++ [(4, [41])]) -> exsE acc' = exsE acc -> ∃ as', exsE as' = exsE (appE acc zs) /\ Ev (fun f => args E f d acc' n) (.ok as' (n + (argT true zs).length + 1))
 | .nil, _, _, _, _, _, h, _, _, _, _ => absurd rfl h
 | .cons x .nil, acc, acc', E, d, n, _, hz, hg, ha, he => by
  rw [GoodAs] at hg
  have et : argT true (.cons x .nil) = exT 1 x := by
   rw [argT, argT]
   show [] ++ (exT 1 x ++ []) = _
   rw [List.append_nil]; rfl
  rw [et] at ha ⊢
  have h41 : (pk E (n + (exT 1 x).length)).text = [41] := (At.head (ks := []) ha.right).2
  obtain ⟨x', e, hev⟩ := (hz.1.2 1 (by decide) (by decide)).closed (d := d + 1) (by rw [brk_one hg.1]; exact hg.1) ha.left (by rw [h41, lev41]; decide) (by rw [h41]; decide)
  refine ⟨acc'.snoc x', by rw [exsE_snoc, e, he]; exact (exsE_snoc acc x).symm, Ev.step (h := fun f => (tied E f 1 (d + 1) n).bind fun x m => if (pk E m).text = tComma then args E f d (acc'.snoc x) (m + 1) else (take E tRp m).bind fun _ m2 => .ok (acc'.snoc x) m2) (fun f => by rw [args_eq]) (Ev.then hev (Ev.pure (fun e => by cases e) fun f => ?_))⟩
  rw [if_neg (by rw [h41]; decide), take_ev (show (pk E (n + (exT 1 x).length)).text = tRp from h41)]
  rfl
 | .cons x (.cons y ys), acc, acc', E, d, n, _, hz, hg, ha, he => by
  rw [GoodAs] at hg
  have et : argT true (.cons x (.cons y ys)) = exT 1 x ++ ([(4, [44])] ++ argT true (.cons y ys)) := by
   rw [argT, argT, argT]
   rfl
  rw [et, List.append_assoc, List.append_assoc] at ha
  have ha2 := ha.right
  have h44 : (pk E (n + (exT 1 x).length)).text = [44] := (At.head (ks := argT true (.cons y ys) ++ [(4, [41])]) ha2).2
  have ha3 : At E (n + (exT 1 x).length + 1) (argT true (.cons y ys) ++ [(4, [41])]) := At.tail (t := [44]) ha2
  obtain ⟨x', e, hev⟩ := (hz.1.2 1 (by decide) (by decide)).closed (d := d + 1) (by rw [brk_one hg.1]; exact hg.1) ha.left (by rw [h44, lev44]; decide) (by rw [h44]; decide)
  obtain ⟨as', e2, hev2⟩ := args_any (.cons y ys) (acc.snoc x) (acc'.snoc x') (fun e => by cases e) hz.2 hg.2 ha3 (by rw [exsE_snoc, exsE_snoc, e, he])
  refine ⟨as', e2, Ev.step (h := fun f => (tied E f 1 (d + 1) n).bind fun x m => if (pk E m).text = tComma then args E f d (acc'.snoc x) (m + 1) else (take E tRp m).bind fun _ m2 => .ok (acc'.snoc x) m2) (fun f => by rw [args_eq]) (Ev.then hev ?_)⟩
  have hl : n + (argT true (.cons x (.cons y ys))).length + 1 = n + (exT 1 x).length + 1 + (argT true (.cons y ys)).length + 1 := by rw [et, List.length_append, List.length_append]; simp; omega
  rw [hl]
  have e3 : (fun f => if (pk E (n + (exT 1 x).length)).text = tComma then args E f d (acc'.snoc x') (n + (exT 1 x).length + 1) else (take E tRp (n + (exT 1 x).length)).bind fun _ m2 => .ok (acc'.snoc x') m2) = fun f => args E f d (acc'.snoc x') (n + (exT 1 x).length + 1) := funext fun f => by rw [if_pos (show (pk E (n + (exT 1 x).length)).text = tComma from h44)]
  rw [e3]
  exact hev2
theorem word_no41 {k : Nat} {t : B} (h : WordT k t) : t ≠ [41] := fun e => by
 have := h.letter
 rw [e] at this
 exact absurd this (by decide)
theorem first_tok : ∀ (x : Ex) (d k : Nat), GoodB x d -> ∃ q ks, exT k x = q :: ks /\ q.2 ≠ [41]
 | .nil, _, _, h => by rw [GoodB] at h; exact h.elim
 | .mk code a n op nm l r zs, d, k, h => by
  by_cases c : code = 5 /\ levV op < k
  ·exact ⟨(4, [40]), bareT (.mk code a n op nm l r zs) ++ [(4, [41])], by unfold exT; rw [exWT_yes c]; rfl, by decide⟩
  have e0 : exT k (.mk code a n op nm l r zs) = bareT (.mk code a n op nm l r zs) := by unfold exT; rw [exWT_no c]
  rw [e0]
  rw [GoodB] at h
  obtain ⟨_, h⟩ := h
  rcases h with ⟨rfl, h1, _⟩ | ⟨rfl, h1, _⟩ | ⟨rfl, _⟩ | ⟨rfl, _, _, h1, _⟩ | ⟨rfl, _, _, _, hv, h1, h2⟩ | ⟨rfl, _, _, _, _, ho, h1⟩ | ⟨rfl, _, _, _, _, _, h1⟩ | ⟨rfl | rfl, _, _, _, _, _, h1⟩ | ⟨rfl, _, _, hw, _, _, h1⟩
  ·refine ⟨(3, sOfB n), [], by rw [bareT]; rfl, fun e => ?_⟩
   have e2 : sOfB n = [41] := e
   have := (num_of n h1).1.digits
   rw [e2] at this
   exact absurd this (by decide)
  ·exact ⟨(2, if n = 0 then tFalse else tTrue), [], by rw [bareT]; rfl, by split <;> decide⟩
  ·exact ⟨(2, tNil), [], by rw [bareT]; rfl, by decide⟩
  ·exact ⟨(1, nm), [], by rw [bareT]; rfl, word_no41 h1⟩
  ·obtain ⟨q, ks, e, hq⟩ := first_tok l _ (levV op) h1
   exact ⟨q, ks ++ ([(4, sgV op)] ++ exT (levV op + 1) r), by rw [bare_bin.2, e]; rfl, hq⟩
  ·exact ⟨(4, signL op), exT 6 l, by rw [bare_un.2]; rfl, by rcases ho with rfl | rfl | rfl <;> decide⟩
  ·exact ⟨(4, tArrow), exT 6 l, by rw [bare_recv.2]; rfl, by decide⟩
  ·exact ⟨(2, tMake), [(4, [40])] ++ (exT 1 l ++ [(4, [41])]), by rw [bare_make.2]; rfl, by decide⟩
  ·exact ⟨(2, tLen), [(4, [40])] ++ (exT 1 l ++ [(4, [41])]), by rw [bare_len.2]; rfl, by decide⟩
  ·exact ⟨(1, nm), [(4, [40])] ++ (argT true zs ++ [(4, [41])]), by rw [bare_call.2]; rfl, word_no41 hw⟩
theorem one_ok {code a k op : Nat} {nm : B} {l r : Ex} {zs : Exs} (hc5 : ¬ code = 5) (hl : All l) (hz : AllAs zs) : OneOk (.mk code a k op nm l r zs) := fun E d n hg ha hn => by
  have e0 : brk 6 (.mk code a k op nm l r zs) = 0 := brk_no (fun e => hc5 e.1)
  have et : exT 6 (.mk code a k op nm l r zs) = bareT (.mk code a k op nm l r zs) := by unfold exT; rw [exWT_no (fun e => hc5 e.1)]
  rw [e0, Nat.add_zero] at hg
  rw [et] at ha hn ⊢
  rw [GoodB] at hg
  obtain ⟨hd, hg⟩ := hg
  have hd12 : ¬ 12 < d := by omega
  rcases hg with ⟨rfl, h1, rfl, rfl, rfl, rfl, rfl⟩ | ⟨rfl, h1, rfl, rfl, rfl, rfl, rfl⟩ | ⟨rfl, rfl, rfl, rfl, rfl, rfl, rfl⟩ | ⟨rfl, rfl, rfl, h1, rfl, rfl, rfl⟩ | ⟨rfl, _⟩ | ⟨rfl, rfl, rfl, rfl, rfl, ho, h1⟩ | ⟨rfl, rfl, rfl, rfl, rfl, rfl, h1⟩ | ⟨rfl | rfl, rfl, rfl, rfl, rfl, rfl, h1⟩ | ⟨rfl, rfl, rfl, hw, rfl, rfl, h1⟩
  ·have e2 : bareT (.mk 1 a k 0 [] .nil .nil .nil) = [(3, sOfB k)] := by rw [bareT]; rfl
   rw [e2] at ha ⊢
   obtain ⟨hk, ht⟩ := ha.head
   refine ⟨leaf 1 (pk E n).at_ k [], exE_mk rfl rfl rfl, Ev.now (fun e => by cases e) (fun f => ?_)⟩
   rw [Tr.one, if_neg hd12, if_pos hk, ht, (num_of k h1).2]
   rfl
  ·have e2 : bareT (.mk 2 a k 0 [] .nil .nil .nil) = [(2, if k = 0 then tFalse else tTrue)] := by rw [bareT]; rfl
   rw [e2] at ha ⊢
   obtain ⟨hk, ht⟩ := ha.head
   refine ⟨leaf 2 (pk E n).at_ k [], exE_mk rfl rfl rfl, Ev.now (fun e => by cases e) (fun f => ?_)⟩
   by_cases c : k = 0
   ·rw [if_pos c] at ht
    rw [Tr.one, if_neg hd12, hk, ht, if_neg (by decide), if_neg (by decide), if_neg (by decide), if_neg (by decide), if_neg (by decide), if_neg (by decide), if_neg (by decide), if_neg (by decide), if_pos rfl, c]
    rfl
   ·rw [if_neg c] at ht
    have hk1 : k = 1 := by omega
    rw [Tr.one, if_neg hd12, hk, ht, if_neg (by decide), if_neg (by decide), if_neg (by decide), if_neg (by decide), if_neg (by decide), if_neg (by decide), if_neg (by decide), if_pos rfl, hk1]
    rfl
  ·have e2 : bareT (.mk 3 a 0 0 [] .nil .nil .nil) = [(2, tNil)] := by rw [bareT]; rfl
   rw [e2] at ha ⊢
   obtain ⟨hk, ht⟩ := ha.head
   refine ⟨leaf 3 (pk E n).at_ 0 [], exE_mk rfl rfl rfl, Ev.now (fun e => by cases e) (fun f => ?_)⟩
   rw [Tr.one, if_neg hd12, hk, ht, if_neg (by decide), if_neg (by decide), if_neg (by decide), if_neg (by decide), if_neg (by decide), if_neg (by decide), if_neg (by decide), if_neg (by decide), if_neg (by decide), if_pos rfl]
   rfl
  ·have e2 : bareT (.mk 4 a 0 0 nm .nil .nil .nil) = [(1, nm)] := by rw [bareT]; rfl
   rw [e2] at ha hn ⊢
   obtain ⟨hk, ht⟩ := ha.head
   refine ⟨leaf 4 (pk E n).at_ 0 nm, exE_mk rfl rfl rfl, Ev.step (h := fun f => named E f d n) (fun f => ?_) (Ev.now (fun e => by cases e) (fun f => ?_))⟩
   ·rw [Tr.one, if_neg hd12, hk, if_neg (by decide), if_pos rfl]
   ·rw [named_eq, if_neg (show ¬ (pk E (n + 1)).text = tLp from hn), ht]
    rfl
  ·exact absurd rfl hc5
  ·have hop : ∃ z, signL op = z /\ (z = [45] \/ z = [94] \/ z = [33]) /\ op1V z = op := by
    rcases ho with rfl | rfl | rfl <;> exact ⟨_, rfl, by decide, by decide⟩
   obtain ⟨z, hz, hz2, hz3⟩ := hop
   rw [(bare_un (a := a) (n := 0) (op := op) (nm := []) (l := l) (r := .nil) (zs := .nil)).2, hz] at ha hn ⊢
   obtain ⟨hk, ht⟩ := At.head (ks := exT 6 l) ha
   have ha2 : At E (n + 1) (exT 6 l) := At.tail (t := z) ha
   have hlen : n + ([(4, z)] ++ exT 6 l).length = n + 1 + (exT 6 l).length := by rw [List.length_append]; simp; omega
   rw [hlen] at hn ⊢
   obtain ⟨l', e, hev⟩ := hl.1 E (d + 1) (n + 1) h1 ha2 hn
   refine ⟨.mk 6 (pk E n).at_ 0 op [] l' .nil .nil, exE_mk e rfl rfl, Ev.step (h := fun f => (one E f (d + 1) (n + 1)).bind fun x m => .ok (.mk 6 (pk E n).at_ 0 op [] x .nil .nil) m) (fun f => ?_) (Ev.then hev (Ev.pure (fun e => by cases e) fun f => rfl))⟩
   rw [Tr.one, if_neg hd12, hk, ht, if_neg (by decide), if_neg (by decide), if_neg (by rcases hz2 with rfl | rfl | rfl <;> decide), if_pos hz2, hz3]
  ·rw [(bare_recv (a := a) (n := 0) (op := 0) (nm := []) (l := l) (r := .nil) (zs := .nil)).2] at ha hn ⊢
   obtain ⟨hk, ht⟩ := At.head (ks := exT 6 l) ha
   have ha2 : At E (n + 1) (exT 6 l) := At.tail (t := tArrow) ha
   have hlen : n + ([(4, tArrow)] ++ exT 6 l).length = n + 1 + (exT 6 l).length := by rw [List.length_append]; simp; omega
   rw [hlen] at hn ⊢
   obtain ⟨l', e, hev⟩ := hl.1 E (d + 1) (n + 1) h1 ha2 hn
   refine ⟨.mk 10 (pk E n).at_ 0 0 [] l' .nil .nil, exE_mk e rfl rfl, Ev.step (h := fun f => (one E f (d + 1) (n + 1)).bind fun x m => .ok (.mk 10 (pk E n).at_ 0 0 [] x .nil .nil) m) (fun f => ?_) (Ev.then hev (Ev.pure (fun e => by cases e) fun f => rfl))⟩
   rw [Tr.one, if_neg hd12, hk, ht, if_neg (by decide), if_neg (by decide), if_neg (by decide), if_neg (by decide), if_pos rfl]
  ·rw [(bare_make (a := a) (n := 0) (op := 0) (nm := []) (l := l) (r := .nil) (zs := .nil)).2] at ha hn ⊢
   obtain ⟨hk, ht⟩ := At.head (ks := [(4, [40])] ++ (exT 1 l ++ [(4, [41])])) ha
   have ha2 : At E (n + 1) ([(4, [40])] ++ (exT 1 l ++ [(4, [41])])) := At.tail (t := tMake) ha
   obtain ⟨l', e, hev⟩ := br_any (hl.2 1 (by decide) (by decide)) h1 ha2
   refine ⟨.mk 8 (pk E n).at_ 0 0 [] l' .nil .nil, exE_mk e rfl rfl, ?_⟩
   have hlen : n + ([(2, tMake)] ++ ([(4, [40])] ++ (exT 1 l ++ [(4, [41])]))).length = n + 1 + 1 + (exT 1 l).length + 1 := by rw [List.length_append, List.length_append, List.length_append]; simp; omega
   rw [hlen]
   refine Ev.step (h := fun f => (bracketed E f d (n + 1)).bind fun x m => .ok (.mk 8 (pk E n).at_ 0 0 [] x .nil .nil) m) (fun f => ?_) (Ev.then hev (Ev.pure (fun e => by cases e) fun f => rfl))
   rw [Tr.one, if_neg hd12, hk, ht, if_neg (by decide), if_neg (by decide), if_neg (by decide), if_neg (by decide), if_neg (by decide), if_pos rfl]
  ·rw [(bare_len (a := a) (n := 0) (op := 0) (nm := []) (l := l) (r := .nil) (zs := .nil)).2] at ha hn ⊢
   obtain ⟨hk, ht⟩ := At.head (ks := [(4, [40])] ++ (exT 1 l ++ [(4, [41])])) ha
   have ha2 : At E (n + 1) ([(4, [40])] ++ (exT 1 l ++ [(4, [41])])) := At.tail (t := tLen) ha
   obtain ⟨l', e, hev⟩ := br_any (hl.2 1 (by decide) (by decide)) h1 ha2
   refine ⟨.mk 9 (pk E n).at_ 0 0 [] l' .nil .nil, exE_mk e rfl rfl, ?_⟩
   have hlen : n + ([(2, tLen)] ++ ([(4, [40])] ++ (exT 1 l ++ [(4, [41])]))).length = n + 1 + 1 + (exT 1 l).length + 1 := by rw [List.length_append, List.length_append, List.length_append]; simp; omega
   rw [hlen]
   refine Ev.step (h := fun f => (bracketed E f d (n + 1)).bind fun x m => .ok (.mk 9 (pk E n).at_ 0 0 [] x .nil .nil) m) (fun f => ?_) (Ev.then hev (Ev.pure (fun e => by cases e) fun f => rfl))
   rw [Tr.one, if_neg hd12, hk, ht, if_neg (by decide), if_neg (by decide), if_neg (by decide), if_neg (by decide), if_neg (by decide), if_neg (by decide), if_pos rfl]
  ·rw [(bare_call (a := a) (n := 0) (op := 0) (nm := nm) (l := .nil) (r := .nil) (zs := zs)).2] at ha hn ⊢
   obtain ⟨hk, ht⟩ := At.head (ks := [(4, [40])] ++ (argT true zs ++ [(4, [41])])) ha
   have ha2 : At E (n + 1) ([(4, [40])] ++ (argT true zs ++ [(4, [41])])) := At.tail (t := nm) ha
   obtain ⟨hk2, ht2⟩ := At.head (ks := argT true zs ++ [(4, [41])]) ha2
   have ha3 : At E (n + 1 + 1) (argT true zs ++ [(4, [41])]) := At.tail (t := [40]) ha2
   have hlen : n + ([(1, nm)] ++ ([(4, [40])] ++ (argT true zs ++ [(4, [41])]))).length = n + 1 + 1 + (argT true zs).length + 1 := by rw [List.length_append, List.length_append, List.length_append]; simp; omega
   rw [hlen]
   have h41 : (pk E (n + 1 + 1 + (argT true zs).length)).text = [41] := (At.head (ks := []) ha3.right).2
   cases zs with
   | nil =>
    have hz : (argT true .nil).length = 0 := by rw [argT]; rfl
    rw [hz] at h41 ⊢
    refine ⟨.mk 7 (pk E n).at_ 0 0 (pk E n).text .nil .nil .nil, by rw [ht]; exact exE_mk rfl rfl rfl, Ev.step (h := fun f => named E f d n) (fun f => ?_) (Ev.step (h := fun f => call E f d (pk E n) (n + 1)) (fun f => ?_) (Ev.now (fun e => by cases e) (fun f => ?_)))⟩
    ·rw [Tr.one, if_neg hd12, hk, if_neg (by decide), if_pos rfl]
    ·rw [named_eq, if_pos (show (pk E (n + 1)).text = tLp from ht2)]
    ·rw [call_eq, take_ev (show (pk E (n + 1)).text = tLp from ht2)]
     show (if (pk E (n + 1 + 1)).text = tRp then _ else _) = _
     rw [if_pos (show (pk E (n + 1 + 1)).text = tRp from h41)]
   | cons y ys =>
    obtain ⟨as', e, hev⟩ := args_any (.cons y ys) .nil .nil (fun e => by cases e) hz h1 ha3 rfl
    have hny : ¬ (pk E (n + 1 + 1)).text = [41] := by
     have h5 : At E (n + 1 + 1) (argT true (.cons y ys)) := ha3.left
     rw [argT] at h5
     have h6 : At E (n + 1 + 1) (exT 1 y) := At.left (k2 := argT false ys) h5
     rw [GoodAs] at h1
     obtain ⟨q, ks, e7, hq⟩ := first_tok y _ 1 h1.1
     rw [e7] at h6
     intro e8
     exact hq (by rw [<- (At.head h6).2]; exact e8)
    refine ⟨.mk 7 (pk E n).at_ 0 0 (pk E n).text .nil .nil as', by rw [ht]; exact exE_mk rfl rfl (by rw [e, appE_nil]), Ev.step (h := fun f => named E f d n) (fun f => ?_) (Ev.step (h := fun f => call E f d (pk E n) (n + 1)) (fun f => ?_) (Ev.step (h := fun f => (args E f d .nil (n + 1 + 1)).bind fun l n2 => .ok (.mk 7 (pk E n).at_ 0 0 (pk E n).text .nil .nil l) n2) (fun f => ?_) (Ev.then hev (Ev.pure (fun e => by cases e) fun f => rfl))))⟩
    ·rw [Tr.one, if_neg hd12, hk, if_neg (by decide), if_pos rfl]
    ·rw [named_eq, if_pos (show (pk E (n + 1)).text = tLp from ht2)]
    ·rw [call_eq, take_ev (show (pk E (n + 1)).text = tLp from ht2)]
     show (if (pk E (n + 1 + 1)).text = tRp then _ else _) = _
     rw [if_neg (show ¬ (pk E (n + 1 + 1)).text = tRp from hny)]
theorem bin_ok {a k op : Nat} {nm : B} {l r : Ex} {zs : Exs} (hl : All l) (hr : All r) : All (.mk 5 a k op nm l r zs) := by
  have key : ∀ {d : Nat}, GoodB (.mk 5 a k op nm l r zs) d -> k = 0 /\ nm = [] /\ zs = .nil /\ 1 <= levV op /\ d <= 12 /\ GoodB l (d + brk (levV op) l) /\ GoodB r (d + brk (levV op + 1) r) := fun h => by
    rw [GoodB] at h
    obtain ⟨hd, h⟩ := h
    rcases h with ⟨h, _⟩ | ⟨h, _⟩ | ⟨h, _⟩ | ⟨h, _⟩ | ⟨_, h1, h2, h3, h4, h5, h6⟩ | ⟨h, _⟩ | ⟨h, _⟩ | ⟨h, _⟩ | ⟨h, _⟩
    · cases h
    · cases h
    · cases h
    · cases h
    · exact ⟨h1, h2, h3, h4, hd, h5, h6⟩
    · cases h
    · cases h
    · rcases h with h | h <;> cases h
    · cases h
  by_cases hv : 1 <= levV op
  case neg =>
    refine ⟨fun E d n hg _ _ => absurd (key hg).2.2.2.1 hv, fun j _ _ E d n hg _ _ _ => absurd (key hg).2.2.2.1 hv⟩
  obtain ⟨s1, s2, s3, s4⟩ := lev_sig op (lev_lt hv) hv
  have hbare : ∀ j, j <= levV op -> exT j (.mk 5 a k op nm l r zs) = exT (levV op) l ++ ([(4, sgV op)] ++ exT (levV op + 1) r) /\ brk j (.mk 5 a k op nm l r zs) = 0 := fun j hj => by
    refine ⟨?_, brk_no (fun e => by have := e.2; omega)⟩
    rw [<- (bare_bin (a := a) (n := k) (op := op) (nm := nm) (l := l) (r := r) (zs := zs)).2]
    unfold exT
    rw [exWT_no (fun e => by have := e.2; omega)]
  have hL : TiedOk (.mk 5 a k op nm l r zs) (levV op) := fun E d n hg ha hlv hn => by
    obtain ⟨eb1, eb2⟩ := hbare (levV op) (Nat.le_refl _)
    rw [eb2, Nat.add_zero] at hg
    rw [eb1] at ha hlv hn ⊢
    obtain ⟨rfl, rfl, rfl, _, hd, g1, g2⟩ := key hg
    have ha2 := ha.right
    have hop : (pk E (n + (exT (levV op) l).length)).text = sgV op := (At.head (ks := exT (levV op + 1) r) ha2).2
    have ha3 : At E (n + (exT (levV op) l).length + 1) (exT (levV op + 1) r) := At.tail (t := sgV op) ha2
    have hlen : n + (exT (levV op) l ++ ([(4, sgV op)] ++ exT (levV op + 1) r)).length = n + (exT (levV op) l).length + 1 + (exT (levV op + 1) r).length := by rw [List.length_append, List.length_append]; simp; omega
    rw [hlen] at hlv hn ⊢
    obtain ⟨l', e1, hl'⟩ := hl.2 (levV op) hv (by omega) E d n g1 ha.left (by rw [hop, s2]; exact Nat.le_refl _) (by
      rw [hop]
      intro e
      rw [e] at s2
      rw [<- s2] at hv
      exact absurd hv (by decide))
    obtain ⟨r', e2, hr'⟩ := (hr.2 (levV op + 1) (by omega) (by omega)).closed g2 ha3 (by omega) hn
    refine ⟨.mk 5 (pk E (n + (exT (levV op) l).length)).at_ 0 op [] l' r' .nil, exE_mk e1 e2 rfl, fun q hq => hl' q ?_⟩
    have t1 : (fun f => tl E f (levV op) d l' (n + (exT (levV op) l).length)) = fun f => tloop E f (levV op) d l' (n + (exT (levV op) l).length) := funext fun f => by unfold tl; rw [if_neg (by omega)]
    rw [t1]
    refine Ev.step (h := fun f => (tied E f (levV op + 1) d (n + (exT (levV op) l).length + 1)).bind fun y m => tloop E f (levV op) d (.mk 5 (pk E (n + (exT (levV op) l).length)).at_ 0 op [] l' y .nil) m) (fun f => ?_) (Ev.then hr' ?_)
    · rw [tloop_eq, hop, s2, if_pos rfl]
    · have t2 : (fun f => tl E f (levV op) d (.mk 5 (pk E (n + (exT (levV op) l).length)).at_ 0 op [] l' r' .nil) (n + (exT (levV op) l).length + 1 + (exT (levV op + 1) r).length)) = fun f => tloop E f (levV op) d (.mk 5 (pk E (n + (exT (levV op) l).length)).at_ 0 op [] l' r' .nil) (n + (exT (levV op) l).length + 1 + (exT (levV op + 1) r).length) := funext fun f => by unfold tl; rw [if_neg (by omega)]
      rw [t2] at hq
      exact hq
  have hlow : ∀ j i, i + j = levV op -> TiedOk (.mk 5 a k op nm l r zs) i := by
    intro j
    induction j with
    | zero => intro i e; obtain rfl : i = levV op := by omega
              exact hL
    | succ j ih =>
      intro i e
      obtain ⟨q1, q2⟩ := exT_same (x := .mk 5 a k op nm l r zs) (k := i) (fun a2 n2 op2 nm2 l2 r2 zs2 e2 => by cases e2; omega)
      exact (ih (i + 1) (by omega)).down (by omega) q1 q2
  have hone : OneOk (.mk 5 a k op nm l r zs) := fun E d n hg ha hn => by
    have b6 : brk 6 (.mk 5 a k op nm l r zs) = 1 := brk_yes ⟨rfl, by omega⟩
    have x6 : exT 6 (.mk 5 a k op nm l r zs) = [(4, [40])] ++ (exT 1 (.mk 5 a k op nm l r zs) ++ [(4, [41])]) := by
      rw [(hbare 1 hv).1, <- (bare_bin (a := a) (n := k) (op := op) (nm := nm) (l := l) (r := r) (zs := zs)).2]
      unfold exT
      rw [exWT_yes ⟨rfl, by omega⟩]
    rw [b6] at hg
    rw [x6] at ha hn ⊢
    obtain ⟨hk, ht⟩ := At.head (ks := exT 1 (.mk 5 a k op nm l r zs) ++ [(4, [41])]) ha
    obtain ⟨x', e, hev⟩ := br_any (hlow (levV op - 1) 1 (by omega)) hg ha
    have hlen : n + ([(4, [40])] ++ (exT 1 (.mk 5 a k op nm l r zs) ++ [(4, [41])])).length = n + 1 + (exT 1 (.mk 5 a k op nm l r zs)).length + 1 := by rw [List.length_append, List.length_append]; simp; omega
    rw [hlen]
    refine ⟨x', e, Ev.step (h := fun f => bracketed E f d n) (fun f => ?_) hev⟩
    have hd := (key hg).2.2.2.2.1
    rw [Tr.one, if_neg (by omega), hk, ht, if_neg (by decide), if_neg (by decide), if_pos (show ([40] : B) = tLp from rfl)]
  have hhigh : ∀ j i, i + j = 6 -> levV op < i -> TiedOk (.mk 5 a k op nm l r zs) i := by
    intro j
    induction j with
    | zero => intro i e _; obtain rfl : i = 6 := by omega
              exact TiedOk.six hone
    | succ j ih =>
      intro i e hi
      obtain ⟨q1, q2⟩ := exT_same (x := .mk 5 a k op nm l r zs) (k := i) (fun a2 n2 op2 nm2 l2 r2 zs2 e2 => by cases e2; omega)
      exact (ih (i + 1) (by omega) (by omega)).down (by omega) q1 q2
  refine ⟨hone, fun i h1 h6 => ?_⟩
  by_cases c : i <= levV op
  · exact hlow (levV op - i) i (by omega)
  · exact hhigh (6 - i) i (by omega) (by omega)
mutual
theorem all_ok : ∀ x : Ex, All x
 | .nil => ⟨fun E d n hg _ _ => by rw [GoodB] at hg; exact hg.elim, fun k _ _ E d n hg _ _ _ => by rw [GoodB] at hg; exact hg.elim⟩
 | .mk code a k op nm l r zs => by
  by_cases c : code = 5
  ·subst c
   exact bin_ok (all_ok l) (all_ok r)
  ·have h := one_ok (a := a) (k := k) (op := op) (nm := nm) (r := r) c (all_ok l) (all_as zs)
   exact ⟨h, fun j h1 h6 => tied_all h (fun a n op nm l r zs e => by injection e with e1; exact c e1) (6 - j) j (by omega)⟩
theorem all_as : ∀ zs : Exs, AllAs zs
 | .nil => trivial
 | .cons x xs => ⟨all_ok x, all_as xs⟩
end
end Tr
end Go.Proofs.YtjejcajnnbilmaaGreatDoor
namespace Go.Proofs.YtjejcajnnbilmaaGreatDoor
open Go.RowKit Lx Tr
variable {w w' : World}
def Writes (B b : Nat) (l out : List UInt8) (w : World) (f : FuncId) (args : Array Value) : Prop :=
 Calls Tryz.prog f args w fun e w' => e = .returned (.tuple #[]) /\ PC B b (l ++ out) w' /\ Below B w w' /\ Others b w w'
abbrev PowT (w : World) : Prop := Lib.TabIs Tryz.prog w "internal/strconv.uint64pow10" .u64 Lib.pow10Tab
theorem gPowT : Tryz.prog.globalNamed "internal/strconv.uint64pow10" = some 9 := by kernel_rfl
theorem PowT.below {B : Nat} (h : PowT w) (hB : 9 < B) (hb : Below B w w') : PowT w' := by
 unfold PowT Lib.TabIs World.var? at h ⊢
 rw [gPowT] at h ⊢
 simp only [Option.bind_some] at h ⊢
 rw [hb.block _ hB]
 exact h
structure PEnv (B : Nat) (w : World) : Prop where
 signs : Signs w
 b1 : 0 < B
 pow : PowT w
 b2 : 9 < B
 kinds : KindsT w
 b3 : 2 < B
theorem PEnv.below {B : Nat} (h : PEnv B w) (hb : Below B w w') : PEnv B w' := ⟨fun k hk => by rw [hb.cell (p := ⟨0, k, none⟩) h.b1]; exact h.signs k hk, h.b1, h.pow.below h.b2 hb, h.b2, fun k hk => by rw [hb.cell (p := ⟨2, k, none⟩) h.b3]; exact h.kinds k hk, h.b3⟩
theorem PEnv.mono {B C : Nat} (h : PEnv B w) (hc : B <= C) : PEnv C w := ⟨h.signs, Nat.lt_of_lt_of_le h.b1 hc, h.pow, Nat.lt_of_lt_of_le h.b2 hc, h.kinds, Nat.lt_of_lt_of_le h.b3 hc⟩
def BareC (B b : Nat) (x : Ex) : Prop :=
 ∀ (l : List UInt8) (w : World) (v : Value), PC B b l w -> B <= w.heap.size -> PEnv B w -> ExIn w (fun k => k < B) v x -> l.length + (bareV x).length <= 1000000 -> x ≠ .nil -> Writes B b l (bareV x) w 105 #[.pointer (some ⟨b, 0, none⟩), v]
def PExprC (B b : Nat) (x : Ex) : Prop :=
 ∀ (least : Nat) (l : List UInt8) (w : World) (v : Value), PC B b l w -> B <= w.heap.size -> PEnv B w -> ExIn w (fun k => k < B) v x -> l.length + (exV least x).length <= 1000000 -> Writes B b l (exV least x) w 73 #[.pointer (some ⟨b, 0, none⟩), v, .int .i64 (least : Nat)]
theorem ExIn.below {B : Nat} {v : Value} {x : Ex} (h : ExIn w (fun k => k < B) v x) (hb : Below B w w') : ExIn w' (fun k => k < B) v x :=
 ExIn.keeps h (Keeps.of_below (S := fun k => B <= k) hb (fun _ _ e => e)) (fun k hk e => by have h1 : k < B := hk; have h2 : B <= k := e; omega)
theorem pexpr_any {B b : Nat} {x : Ex} (hC : BareC B b x) : PExprC B b x := by
 intro least l w v h hB hP hx hlen
 unfold Writes
 cases x with
 | nil =>
  have hv : v = .pointer none := hx
  subst hv
  have hout : l ++ exV least .nil = l := List.append_nil l
  rw [hout]
  have H := zz h
  clear h hx hP hC hlen hout
  go_enter Tryz.func73, Tryz.ntmps73
  go_wp2_with fail
  try simp only [Exit.inBlock, Exit.then]
  refine bodyPost_ret (results_none rfl _ _ _) rfl ?_
  exact ⟨rfl, H.out, Below.refl _ _, Others.refl _ _⟩
 | mk code at_ n op name lx rx ar =>
  have hx' := hx
  obtain ⟨bk, lv, rv, av, rfl, hbk, c0, _, _, _, c4, _⟩ := hx'
  have HC := zz (hC l w _ h hB hP hx)
  have HL : Hid (∀ W, Calls Tryz.prog 104 #[.int .i64 (op : Nat)] W fun e w' => e = .returned (.int .i64 (levV op : Nat)) /\ W = w') := zz fun W => level_any op W
  have H := zz h
  have HB := zz hB
  have HP := zz hP
  have HX := zz hx
  have HCC := zz hC
  by_cases hcond : code = 5 /\ levV op < least
  ·have hout : exV least (.mk code at_ n op name lx rx ar) = [40] ++ (bareV (.mk code at_ n op name lx rx ar) ++ [41]) := by unfold exV exW; exact if_pos hcond
   rw [hout] at hlen ⊢
   rw [List.length_append, List.length_append] at hlen
   have HLN : Hid (l.length + (1 + ((bareV (.mk code at_ n op name lx rx ar)).length + 1)) <= 1000000) := zz hlen
   have HPUT := zz (put_new B b l [⟨#[40]⟩] w h hB (by have := HLN.out; show l.length + 1 <= _; omega) (by decide))
   have e5 : ((code : Int) == 5) = true := by rw [hcond.1]; rfl
   have hlt : ((levV op : Nat) : Int) < (least : Int) := by omega
   clear h hx hP hC hlen hout HC hcond
   go_enter Tryz.func73, Tryz.ntmps73
   go_wp2_with (go_at_call 104; refine (HL.out _).mono ?_; rintro e w2 ⟨rfl, rfl⟩)
   refine HPUT.out.mono ?_
   rintro e w3 ⟨rfl, h3, hb3, ho3⟩
   have hB3 := Nat.le_trans HB.out hb3.size
   have HBA := zz (HCC.out (l ++ [40]) w3 _ h3 hB3 (HP.out.below hb3) (HX.out.below hb3) (by have := HLN.out; rw [List.length_append]; show l.length + 1 + _ <= _; omega) (fun e => by cases e))
   have HB3 := zz hb3
   have HO3 := zz ho3
   clear h3 hb3 hB3 ho3
   go_wp2_with fail
   refine HBA.out.mono ?_
   rintro e w4 ⟨rfl, h4, hb4, ho4⟩
   have hB4 := Nat.le_trans HB.out (HB3.out.trans hb4).size
   have HPUT2 := zz (put_new B b _ [⟨#[41]⟩] w4 h4 hB4 (by have := HLN.out; rw [List.length_append, List.length_append]; show l.length + 1 + _ + 1 <= _; omega) (by decide))
   have HB4 := zz (HB3.out.trans hb4)
   have HO4 := zz (HO3.out.trans ho4)
   clear h4 hb4 hB4 ho4
   go_wp2_with fail
   refine HPUT2.out.mono ?_
   rintro e w5 ⟨rfl, h5, hb5, ho5⟩
   have h5' : PC B b (l ++ ([40] ++ (bareV (.mk code at_ n op name lx rx ar) ++ [41]))) w5 := by
    have e : l ++ ([40] ++ (bareV (.mk code at_ n op name lx rx ar) ++ [41])) = l ++ [40] ++ bareV (.mk code at_ n op name lx rx ar) ++ catV [⟨#[41]⟩] := by
     simp only [List.append_assoc]; rfl
    rw [e]; exact h5
   have H5 := zz h5'
   have HB5 := zz (HB4.out.trans hb5)
   have HO5 := zz (HO4.out.trans ho5)
   clear h5 h5' hb5 ho5
   go_wp2_with fail
   try simp only [Exit.inBlock, Exit.then]
   refine bodyPost_ret (results_none rfl _ _ _) rfl ?_
   exact ⟨rfl, H5.out, HB5.out, HO5.out⟩
  ·have hout : exV least (.mk code at_ n op name lx rx ar) = bareV (.mk code at_ n op name lx rx ar) := by unfold exV exW; exact if_neg hcond
   rw [hout] at hlen ⊢
   have HW := zz (HC.out hlen (fun e => by cases e))
   clear h hx hP hC hlen hout HC
   by_cases h5 : code = 5
   ·have e5 : ((code : Int) == 5) = true := by rw [h5]; rfl
    have hlt : ¬ ((levV op : Nat) : Int) < (least : Int) := by omega
    clear hcond h5
    go_enter Tryz.func73, Tryz.ntmps73
    go_wp2_with (go_at_call 104; refine (HL.out _).mono ?_; rintro e w2 ⟨rfl, rfl⟩)
    refine HW.out.mono ?_
    rintro e w2 ⟨rfl, h2, hb2, ho2⟩
    have H2 := zz h2
    have HB2 := zz hb2
    have HO2 := zz ho2
    clear h2 hb2 ho2
    go_wp2_with fail
    go_end0
    exact ⟨rfl, H2.out, HB2.out, HO2.out⟩
   ·have e5 : ((code : Int) == 5) = false := beq_eq_false_iff_ne.2 (by omega)
    clear hcond h5
    go_enter Tryz.func73, Tryz.ntmps73
    go_wp2_with fail
    refine HW.out.mono ?_
    rintro e w2 ⟨rfl, h2, hb2, ho2⟩
    have H2 := zz h2
    have HB2 := zz hb2
    have HO2 := zz ho2
    clear h2 hb2 ho2
    go_wp2_with fail
    go_end0
    exact ⟨rfl, H2.out, HB2.out, HO2.out⟩
def argL : Bool -> List Ex -> B
 | _, [] => []
 | f, x :: xs => (if f then [] else [44, 32]) ++ (exV 1 x ++ argL false xs)
theorem argL_snoc : ∀ (l : List Ex) (f : Bool) (x : Ex), argL f (l ++ [x]) = argL f l ++ ((if f = true /\ l = [] then [] else [44, 32]) ++ exV 1 x)
 | [], f, x => by
  show (if f then [] else [44, 32]) ++ (exV 1 x ++ []) = [] ++ _
  cases f <;> simp
 | y :: l, f, x => by
  show (if f then [] else [44, 32]) ++ (exV 1 y ++ argL false (l ++ [x])) = ((if f then [] else [44, 32]) ++ (exV 1 y ++ argL false l)) ++ _
  rw [argL_snoc l false x, if_neg (show ¬ (false = true /\ l = []) from fun e => by cases e.1), if_neg (show ¬ (f = true /\ y :: l = []) from fun e => by cases e.2)]
  simp only [List.append_assoc]
theorem argV_list : ∀ (xs : Exs) (f : Bool), argV f xs = argL f xs.toList
 | .nil, _ => rfl
 | .cons x xs, f => by
  show (if f then [] else [44, 32]) ++ (exW 1 x (bareV x) ++ argV false xs) = _
  rw [argV_list xs false]; rfl
theorem Exs.len_list : ∀ (xs : Exs), xs.toList.length = xs.len
 | .nil => rfl
 | .cons _ xs => congrArg (· + 1) (Exs.len_list xs)
theorem argL_le : ∀ (l : List Ex) (k : Nat) (f : Bool), (argL f (l.take k)).length <= (argL f l).length
 | [], k, f => by simp [argL]
 | x :: xs, 0, f => Nat.zero_le _
 | x :: xs, k + 1, f => by
  show ((if f then [] else [44, 32]) ++ (exV 1 x ++ argL false (xs.take k))).length <= ((if f then [] else [44, 32]) ++ (exV 1 x ++ argL false xs)).length
  have := argL_le xs k false
  simp only [List.length_append]
  omega
theorem argL_twoF : ∀ ys : List Ex, 2 * ys.length <= (argL false ys).length
 | [] => by simp
 | y :: ys => by
  have := argL_twoF ys
  show 2 * (ys.length + 1) <= ([44, 32] ++ (exV 1 y ++ argL false ys)).length
  simp only [List.length_append, List.length_cons, List.length_nil]
  omega
theorem argL_two (l : List Ex) (f : Bool) : 2 * l.length <= (argL f l).length + 2 := by
 cases l with
 | nil => simp
 | cons x xs =>
  have := argL_twoF xs
  show 2 * (xs.length + 1) <= ((if f then [] else [44, 32]) ++ (exV 1 x ++ argL false xs)).length + 2
  simp only [List.length_append]
  omega
def ArgsAt (B b : Nat) (w : World) (av : Value) (l : List Ex) : Prop :=
 (av = .slice none 0 0 /\ l = []) \/ ∃ g cap, av = .slice (some ⟨g, 0, none⟩) l.length cap /\ (∀ w', Below B w w' -> Others b w w' -> ∀ i : Nat, w'.cell? ⟨g, i, none⟩ = w.cell? ⟨g, i, none⟩) ∧
  ∀ i x, l[i]? = some x -> ∃ v, w.cell? ⟨g, i, none⟩ = some v /\ ExIn w (fun k => k < B) v x
theorem pcall_any {B b : Nat} (name : Lx.B) (args : List Ex) (hA : ∀ x ∈ args, PExprC B b x) (l : List UInt8) (w : World) (av : Value) (h : PC B b l w) (hB : B <= w.heap.size) (hP : PEnv B w) (hx : ArgsAt B b w av args) (hlen : l.length + (name ++ ([40] ++ (argL true args ++ [41]))).length <= 1000000) :
  Writes B b l (name ++ ([40] ++ (argL true args ++ [41]))) w 137 #[.pointer (some ⟨b, 0, none⟩), .string (mkT name), av] := by
 unfold Writes
 obtain ⟨ao, cap, hav⟩ : ∃ ao cap, av = .slice ao args.length cap := by
  rcases hx with ⟨e1, e2⟩ | ⟨g, cap, e1, _⟩
  ·exact ⟨none, 0, by rw [e1, e2]; rfl⟩
  ·exact ⟨_, _, e1⟩
 subst hav
 have hl2 : (mkT name).data.toList = name := rfl
 have hn : args.length <= 1000000 := by
  have := argL_two args true
  simp only [List.length_append, List.length_singleton] at hlen
  omega
 simp only [List.length_append, List.length_singleton] at hlen
 have HPUT := zz (put_new B b l [mkT name, ⟨#[40]⟩] w h hB (by show l.length + (name ++ ([40] ++ [])).length <= _; simp only [List.length_append, List.length_singleton, List.length_nil]; omega) (by simp))
 have HA := zz hA
 have HB := zz hB
 have HP := zz hP
 have HX := zz hx
 have HLN : Hid (l.length + (name.length + (1 + ((argL true args).length + 1))) <= 1000000) := zz hlen
 clear hA h hB hP hx hlen hl2
 go_enter Tryz.func137, Tryz.ntmps137
 go_wp2_with fail
 refine HPUT.out.mono ?_
 rintro e w1 ⟨rfl, h1, hb1, ho1⟩
 have HI0 : Hid (PC B b (l ++ (name ++ ([40] ++ argL true (args.take 0)))) w1) := zz h1
 have HB1 := zz hb1
 have HO1 := zz ho1
 clear h1 hb1 ho1
 go_wp2_with fail
 go_loopw [14, 6, 7] (fun i _ _ wr => ∃ k : Nat, k <= args.length /\ i = .int .i64 k /\ PC B b (l ++ (name ++ ([40] ++ argL true (args.take k)))) wr /\ Below B w wr /\ Others b w wr) (fun i _ _ _ => args.length - (intOf i).toNat)
 case atStart => exact ⟨0, Nat.zero_le _, rfl, HI0.out, HB1.out, HO1.out⟩
 case round =>
  obtain ⟨k, hk, rfl, hp, hb, ho⟩ := hrel
  have HPP := zz hp
  have HBL := zz hb
  have HO := zz ho
  clear hp hb ho
  by_cases hlt : k < args.length
  ·obtain ⟨x, hkx⟩ : ∃ x, args[k]? = some x := ⟨_, List.getElem?_eq_getElem hlt⟩
   obtain ⟨g, v, rfl, hcell, hxin⟩ : ∃ g v, ao = some ⟨g, 0, none⟩ /\ wr.cell? ⟨g, k, none⟩ = some v /\ ExIn w (fun k => k < B) v x := by
    rcases HX.out with ⟨_, e2⟩ | ⟨g, cap', e1, hst, hel⟩
    ·rw [e2] at hlt; exact absurd hlt (Nat.not_lt_zero _)
    ·injection e1 with e3 _ _
     obtain ⟨v, h1, h2⟩ := hel k x hkx
     exact ⟨g, v, e3, by rw [hst wr HBL.out HO.out k]; exact h1, h2⟩
   have hki : (k : Int) < (args.length : Int) := by omega
   have hkii : (0 : Int) <= (k : Int) /\ (k : Int) < (args.length : Int) := by omega
   have hw : IntKind.i64.wrap ((k : Int) + 1) = (k : Int) + 1 := IntWalk.i64_in _ (by omega)
   have htk : args.take (k + 1) = args.take k ++ [x] := by rw [List.take_add_one, hkx]; rfl
   have hAT : argL true (args.take (k + 1)) = argL true (args.take k) ++ ((if k = 0 then [] else [44, 32]) ++ exV 1 x) := by
    rw [htk, argL_snoc]
    by_cases hk0 : k = 0
    ·rw [if_pos hk0, if_pos ⟨rfl, by rw [hk0, List.take_zero]⟩]
    ·rw [if_neg hk0, if_neg (fun e => hk0 (by have h7 := congrArg List.length e.2; rw [List.length_take] at h7; have h8 : min k args.length = 0 := h7; omega))]
   have hle := argL_le args (k + 1) true
   rw [hAT, List.length_append, List.length_append] at hle
   have hmem : x ∈ args := List.mem_of_getElem? hkx
   have HXW := zz (hxin.below HBL.out)
   have HEX := zz (HA.out x hmem)
   have HAT := zz hAT
   have HLE := zz hle
   clear hkx hxin htk hAT hle hmem
   by_cases hk0 : k = 0
   ·subst hk0
    have HE := zz (HEX.out 1 _ wr v HPP.out (Nat.le_trans HB.out HBL.out.size) (HP.out.below HBL.out) HXW.out (by have := HLN.out; have h9 := HLE.out; rw [if_pos rfl] at h9; simp only [List.length_append, List.length_singleton, List.length_nil] at h9 ⊢; omega))
    go_wp2_with fail
    refine HE.out.mono ?_
    rintro e w3 ⟨rfl, h3, hb3, ho3⟩
    have h3' : PC B b (l ++ (name ++ ([40] ++ argL true (args.take (0 + 1))))) w3 := by
     have e : l ++ (name ++ ([40] ++ argL true (args.take (0 + 1)))) = l ++ (name ++ ([40] ++ argL true (args.take 0))) ++ exV 1 x := by
      rw [HAT.out]; simp only [List.append_assoc]; rfl
     rw [e]; exact h3
    have H3 := zz h3'
    have HB3 := zz (HBL.out.trans hb3)
    have HO3 := zz (HO.out.trans ho3)
    clear h3 h3' hb3 ho3
    go_wp2_with fail
    exact ⟨⟨0 + 1, by omega, by simp, H3.out, HB3.out, HO3.out⟩, by simp [intOf]; omega⟩
   ·have hgt : (0 : Int) < (k : Int) := by omega
    have HK0 := zz hk0
    have HPUT2 := zz (put_new B b _ [⟨#[44, 32]⟩] wr HPP.out (Nat.le_trans HB.out HBL.out.size) (by have := HLN.out; have h9 := HLE.out; rw [if_neg HK0.out] at h9; simp only [List.length_append, List.length_nil, List.length_cons] at h9 ⊢; show _ + 2 <= _; omega) (by simp))
    clear hk0
    go_wp2_with fail
    refine HPUT2.out.mono ?_
    rintro e w2 ⟨rfl, h2, hb2, ho2⟩
    have HB2 := zz (HBL.out.trans hb2)
    have HO2 := zz (HO.out.trans ho2)
    have HE := zz (HEX.out 1 _ w2 v h2 (Nat.le_trans HB.out HB2.out.size) (HP.out.below HB2.out) (HXW.out.below hb2) (by have := HLN.out; have h9 := HLE.out; rw [if_neg HK0.out] at h9; simp only [List.length_append, List.length_nil, List.length_cons] at h9 ⊢; show _ + 2 + _ <= _; omega))
    clear h2 hb2 ho2
    go_wp2_with fail
    refine HE.out.mono ?_
    rintro e w3 ⟨rfl, h3, hb3, ho3⟩
    have h3' : PC B b (l ++ (name ++ ([40] ++ argL true (args.take (k + 1))))) w3 := by
     have e : l ++ (name ++ ([40] ++ argL true (args.take (k + 1)))) = l ++ (name ++ ([40] ++ argL true (args.take k))) ++ catV [⟨#[44, 32]⟩] ++ exV 1 x := by
      rw [HAT.out, if_neg HK0.out]; simp only [List.append_assoc]; rfl
     rw [e]; exact h3
    have H3 := zz h3'
    have HB3 := zz (HB2.out.trans hb3)
    have HO3 := zz (HO2.out.trans ho3)
    clear h3 h3' hb3 ho3
    go_wp2_with fail
    exact ⟨⟨k + 1, by omega, by simp, H3.out, HB3.out, HO3.out⟩, by simp [intOf]; omega⟩
  ·have hki : ¬ (k : Int) < (args.length : Int) := by omega
   have hkk : k = args.length := by omega
   have HKK := zz hkk
   have h2 := HPP.out
   rw [hkk, List.take_length] at h2
   have HPUT2 := zz (put_new B b _ [⟨#[41]⟩] wr h2 (Nat.le_trans HB.out HBL.out.size) (by have := HLN.out; simp only [List.length_append, List.length_singleton]; show _ + 1 <= _; omega) (by decide))
   clear hkk h2
   go_wp2_with fail
   refine HPUT2.out.mono ?_
   rintro e w3 ⟨rfl, h3, hb3, ho3⟩
   have h3' : PC B b (l ++ (name ++ ([40] ++ (argL true args ++ [41])))) w3 := by
    have e : l ++ (name ++ ([40] ++ (argL true args ++ [41]))) = l ++ (name ++ ([40] ++ argL true args)) ++ catV [⟨#[41]⟩] := by
     simp only [List.append_assoc]; rfl
    rw [e]; exact h3
   have H3 := zz h3'
   have HB3 := zz (HBL.out.trans hb3)
   have HO3 := zz (HO.out.trans ho3)
   clear h3 h3' hb3 ho3
   go_wp2_with fail
   go_end0
   exact ⟨rfl, H3.out, HB3.out, HO3.out⟩
theorem signV_nat (n : Nat) : signV (n : Int) = signL n := by
 unfold signV
 by_cases h : 1 <= (n : Int) /\ (n : Int) <= 19
 ·rw [if_pos h]; rfl
 ·rw [if_neg h]
  by_cases h0 : n = 0
  ·subst h0; rfl
  ·unfold signL
   rw [List.getD_eq_getElem?_getD, List.getElem?_eq_none]
   ·rfl
   ·have : signsL.length = 20 := rfl
    omega
theorem tsign_any (op : Nat) (w : World) (hS : Signs w) : Calls Tryz.prog 136 #[.int .i64 op] w fun e w' => e = .returned (.string (mkT (sgV op))) /\ w = w' := by
 by_cases h1 : op = 30
 ·subst h1
  go_enter Tryz.func136, Tryz.ntmps136
  go_wp2_with fail
  try simp only [Exit.inBlock, Exit.then]
  go_ret
  exact ⟨rfl, rfl⟩
 ·by_cases h2 : op = 31
  ·subst h2
   go_enter Tryz.func136, Tryz.ntmps136
   go_wp2_with fail
   try simp only [Exit.inBlock, Exit.then]
   go_ret
   exact ⟨rfl, rfl⟩
  ·have e1 : ((op : Int) == 30) = false := beq_eq_false_iff_ne.2 (by omega)
   have e2 : ((op : Int) == 31) = false := beq_eq_false_iff_ne.2 (by omega)
   have HC := zz (sign_any (op : Int) w hS)
   have HE : Hid (mkT (sgV op) = ⟨(signV (op : Int)).toArray⟩) := zz (by rw [signV_nat]; unfold sgV; rw [if_neg h1, if_neg h2]; rfl)
   clear hS h1 h2
   rw [HE.out]
   go_enter Tryz.func136, Tryz.ntmps136
   go_wp2_with fail
   refine HC.out.mono ?_
   rintro e w2 ⟨rfl, rfl⟩
   go_wp2_with fail
   try simp only [Exit.inBlock, Exit.then]
   go_ret
   exact ⟨rfl, rfl⟩
theorem boolB_any (c : Bool) (w : World) : Calls Tryz.prog 135 #[.bool c] w fun e w' => e = .returned (.string (mkT (if c then tTrue else tFalse))) /\ w = w' := by
 refine (Tryz.strconv_FormatBool c w).mono ?_
 rintro e w' ⟨rfl, rfl⟩
 cases c <;> exact ⟨rfl, rfl⟩
theorem itoaP_any (n : Nat) (h1 : n <= 9223372036854775807) (w : World) (h : PowT w) : Calls Tryz.prog 134 #[.int .i64 (n : Nat)] w fun e w' => e = .returned (.string (mkT (sOfB n))) /\ Below w.heap.size w w' := by
 refine (Tryz.strconv_Itoa (n : Int) (by omega) (by omega) w h).mono ?_
 rintro e w' ⟨rfl, k, os, rfl⟩
 refine ⟨rfl, ⟨rfl, rfl, rfl, by simp [Sort.grow, World.drewN], fun k hk => by simp [Sort.grow, World.drewN, Array.getElem?_append, hk]⟩⟩
mutual
def ExOk : Ex -> Prop
 | .nil => True
 | .mk _ _ n _ _ l r args => n <= 9223372036854775807 /\ ExOk l /\ ExOk r /\ ExsOk args
def ExsOk : Exs -> Prop
 | .nil => True
 | .cons x xs => ExOk x /\ ExsOk xs
end
end Go.Proofs.YtjejcajnnbilmaaGreatDoor
