/-
  The walk of package pipe's wait.
-/
import Derived.Test.YtpehmghnfbkaaaaDoorPipeWD
namespace Go.Proofs.YtpehmghnfbkaaaaDoor
open Go.RowKit Go.Maps Pp

theorem run_equalIn_map_nil {P : Program} (w : World) (d : Nat) (t k e : TypeId) (m : Option Nat) (h : P.underlying t = some (.map k e)) : (Op.equalIn (d + 1) t (.map m) (.map none)).run P w = .ok m.isNone w := by
  cases m <;> simp [Op.equalIn, run_underlying h]
theorem run_eql_map_nil {P : Program} (w : World) (t k e : TypeId) (m : Option Nat) (h : P.underlying t = some (.map k e)) : (binOp .eql t (.map m) (.map none)).run P w = .ok (.bool m.isNone) w := by
  simp only [binOp]
  simp [Op.equal, Op.maxDepth, run_equalIn_map_nil w 9999 t k e m h]
/-- So many of a task's talks stand in their rows. -/
structure WaitJ (w wr : World) (ρ : Nat → Role) (pb : Nat) (vch : Value) (ptr : List Nat) (b : Nat) (D : DataW Value) (N M : Nat) (s : St) (task : Int) (l : List Tk) (i : Nat) : Prop where
  at_ : ∃ ρ', PipesAt wr ρ' pb vch ptr (some b) D N (M + i) ⟨lay task s.chs (l.take i) 0, s.asks⟩ ∧ ∀ g, g < w.heap.size → ρ' g = ρ g
  keep : Keeps (fun g => ρ g ≠ .free) w wr

set_option maxRecDepth 100000 in
set_option maxHeartbeats 6400000 in
theorem wait_any {w : World} {ρ : Nat → Role} {pb : Nat} {vch : Value} {ptr : List Nat} {mb : Option Nat} {D : DataW Value} {N M : Nat} {s : St} (h : PipesAt w ρ pb vch ptr mb D N M s) (hN : N ≤ 1000000000) (hM : M ≤ 10000000) (task : Int) (hwf : (Lit.int .i64 task).wf = true) {v : Value} {l : List Tk}
    (hl : TalksAt w v l) (hvo : ∀ g, v.ownBlock = some g → ρ g = .free) (hg : ∀ x ∈ l, x.good s.chs.length) (h6 : l.length ≤ 6) :
    Calls Tryd.prog 37 #[.pointer (some ⟨pb, 0, none⟩), .int .i64 task, v] w fun e w' => (e = .returned (.tuple #[])) ∧ (∃ ρ' mb' D', PipesAt w' ρ' pb vch ptr mb' D' (N + 1) (M + 6) (Pp.wait s task l) ∧ ∀ g, g < w.heap.size → ρ' g = ρ g) ∧
      Keeps (fun b => ρ b ≠ .free) w w' := by
  obtain ⟨ao, cap, rfl, hc1, hc2⟩ := hl.slice
  have HWF := Lib.hid hwf
  have HTW := Lib.hid hl
  have HVO := Lib.hid hvo
  have HG := Lib.hid hg
  have HDOM := Lib.hid h.dom
  have p1 := h.c1
  cases mb with
  | none =>
    have hmm := @run_makeMap Tryd.prog
    have heq := run_eql_map_nil (P := Tryd.prog) w 29 3 32 none Tryd.underlying29
    rw [Option.isNone_none] at heq
    have hz1 : (w.alloc (.map #[] 0)).frozen? ⟨pb, 1, none⟩ = false := by rw [World.frozen?_alloc_past _ _ _ h.lt]; exact h.z 1
    have hp1 := Go.Lib.cell?_alloc_some (.map #[] 0) h.c1
    obtain ⟨h1, hk1⟩ := h.made
    have HP1 := Lib.hid (h1.mono (Nat.zero_le N) (Nat.le_refl M))
    have HT1 : Hid (TalksAt ((w.alloc (.map #[] 0)).setCell ⟨pb, 1, none⟩ (.map (some w.heap.size))) (.slice ao l.length cap) l) := Lib.hid (hl.keeps hk1 fun g hg e => by (have := hvo g hg; rw [e, h.p0] at this; cases this))
    have HX1 : Hid (∀ g, g < w.heap.size → roleFrom ρ w.heap.size (w.heap.size + 1) .asks g = ρ g) := Lib.hid fun g hg => roleFrom_old hg
    have HKF : Hid (Keeps (fun b => ρ b ≠ .free) w ((w.alloc (.map #[] 0)).setCell ⟨pb, 1, none⟩ (.map (some w.heap.size)))) := Lib.hid (hk1.mono fun g _ e => by rw [e, h.p0]; simp)
    have hpbl : ¬ pb = w.heap.size := by have := h.lt; omega
    clear h h1 hk1 hl hwf hvo hg
    go_enter Tryd.func37, Tryd.ntmps37
    go_upto_region 2 with fail
    clear hz1 hmm p1 hp1 heq
    generalize (w.alloc (.map #[] 0)).setCell ⟨pb, 1, none⟩ (.map (some w.heap.size)) = w1 at *
    generalize roleFrom ρ w.heap.size (w.heap.size + 1) .asks = ρ1 at *
    have p2 := HP1.out.c1
    have HPBL : Hid (pb < w1.heap.size) := Lib.hid HP1.out.lt
    have HTD : Hid (∀ n, TalksAt (w1.drewN n) (.slice ao l.length cap) l) := Lib.hid fun n => HT1.out.keeps (keeps_drewN (Keeps.refl (fun _ => False) w1) n) fun _ _ e => e
    go_region_with (go_at_call 49; refine (cloneT_any _ (HTD.out _) (by omega)).mono ?_; rintro e w3 ⟨u, rfl, ho3, hb3⟩; have HO3 : Hid (w3.ownsRow w1.heap.size 85 3 u l.length (cellsL l)) := Lib.hid ho3; have HB3 : Hid (Below w1.heap.size w1 w3) := Lib.hid ⟨hb3.os, hb3.tape, hb3.output, hb3.size, hb3.block⟩; have p3 : w3.cell? ⟨pb, 1, none⟩ = some (.map (some w.heap.size)) := (HB3.out.cell (p := ⟨pb, 1, none⟩) HPBL.out).trans p2; obtain ⟨w4, hmu, hown4, hgrow4⟩ := World.ownsMap.update ((Keeps.of_new HB3.out).map (S := fun _ => False) (HP1.out.map1 _ rfl).1 id) keyedP Tryd.underlying29 (by unfold maxLen; omega) (keyOf_int_mk Tryd.underlying3 HWF.out) (val := u) (d := .held u) (ps := []) rfl; have HO4 := Lib.hid hown4; have HG4 := Lib.hid hgrow4; clear ho3 hb3 hown4 hgrow4)
    all_goals
      have HK34 : Hid (Keeps (fun g => g = w.heap.size) w3 w4) := Lib.hid (Keeps.of_grownBy HG4.out fun g _ e => by cases e; rfl)
      have HP4 : Hid (PipesAt w4 (roleFrom ρ1 w1.heap.size w3.heap.size (.talks task)) pb vch ptr (some w.heap.size) ((DataW.map []).put (.int .i64 task) (.held u)) (N + 1) M ⟨s.chs, fun x => if x = task then some l else s.asks x⟩) := Lib.hid (by
        have h3 := HP1.out.same (ρ' := roleFrom ρ1 w1.heap.size w3.heap.size (.talks task)) (Keeps.of_new (S := fun _ => False) HB3.out) (fun g hg => roleFrom_old hg) (roleFrom_dom HP1.out.dom HB3.out.size) fun _ e => e.elim
        refine h3.note rfl HWF.out HK34.out HO4.out (talks_of_own HO3.out) fun g hg => ?_
        have := World.ownsRow.lt HO3.out g hg
        exact roleFrom_new this.1 this.2)
      have HX4 : Hid (∀ g, g < w.heap.size → roleFrom ρ1 w1.heap.size w3.heap.size (.talks task) g = ρ g) := Lib.hid fun g hg => (roleFrom_old (Nat.lt_of_lt_of_le hg HKF.out.size)).trans (HX1.out g hg)
      have HK4 : Hid (Keeps (fun g => ρ g ≠ .free) w w4) := Lib.hid ((HKF.out.trans (Keeps.of_new HB3.out)).trans' HK34.out fun g hg e => by
        have h1 := (HP1.out.map1 _ rfl).2
        have hx9 : ρ1 g = ρ g := HX1.out g hg
        rw [← hx9, e, h1]; simp)
      have HJ0 : Hid (WaitJ w w4 ρ pb vch ptr w.heap.size ((DataW.map []).put (.int .i64 task) (.held u)) (N + 1) M ⟨s.chs, fun x => if x = task then some l else s.asks x⟩ task l 0) := Lib.hid ⟨⟨_, HP4.out, HX4.out⟩, HK4.out⟩
      clear p2 p3 hmu
      go_wp2_with fail
      go_loopw [28] (fun t wr => ∃ i : Nat, i ≤ l.length ∧ t = .int .i64 i ∧ WaitJ w wr ρ pb vch ptr w.heap.size ((DataW.map []).put (.int .i64 task) (.held u)) (N + 1) M ⟨s.chs, fun x => if x = task then some l else s.asks x⟩ task l i) (fun t _ => l.length - (intOf t).toNat)
      case atStart => exact ⟨0, Nat.zero_le _, rfl, HJ0.out⟩
      case round =>
        obtain ⟨i, hi, rfl, hJ⟩ := hrel
        have HJ := Lib.hid hJ
        clear hJ HJ0
        by_cases hil : i < l.length
        · obtain ⟨x, hx⟩ : ∃ x, l[i]? = some x := ⟨_, List.getElem?_eq_getElem hil⟩
          have HX := Lib.hid hx
          have HGX := Lib.hid (HG.out x (List.mem_of_getElem? hx))
          obtain ⟨ρ', hp, hxr⟩ := HJ.out.at_
          have htr : TalksAt wr (.slice ao l.length cap) l := HTW.out.keeps HJ.out.keep fun g hg e => e (HVO.out g hg)
          obtain ⟨tb, o, rfl, htb, c1, c2, c3⟩ := htr.at hx
          have hii : (0 : Int) ≤ (i : Int) ∧ (i : Int) < (l.length : Int) := by omega
          obtain ⟨xw, xc, xn⟩ := x
          simp only at c1 c2 c3
          have hka : Keeps (fun _ => False) wr (wr.alloc (.cells #[.int .i64 xw, .int .i64 xc, .int .i64 xn] 85)) := (Keeps.refl _ wr).alloc _
          have HP6 := Lib.hid (hp.keeps hka fun _ _ e => e.elim)
          have HKA := Lib.hid (HJ.out.keep.trans' hka fun _ _ e => e.elim)
          have HXR := Lib.hid hxr
          have hm6 : may (lay task s.chs (l.take i) 0).length xc = true := by
            rw [lay_len]
            unfold may
            obtain ⟨h1, _⟩ := HGX.out
            simp only at h1
            simp [h1.1, h1.2]
          have HM6 := Lib.hid hm6
          have HC6 := Lib.hid (HP6.out.chan hm6)
          clear hka hm6 hx htr hp hxr htb
          rcases HC6.out with ⟨h0, hn0, _⟩ | ⟨kc, cb, rb, sb, v1, v2, c, hxc, hcg, hcp, hcp2, _, hch⟩
          · have HN0 := Lib.hid hn0
            have HS0 : Hid (lay task s.chs (l.take (i + 1)) 0 = lay task s.chs (l.take i) 0) := Lib.hid ((lay_succ HX.out s.chs 0).trans (layAt_zero h0))
            clear hn0 h0 HC6
            go_wp2_with fail
            refine (channel_any HP6.out xc HM6.out).mono ?_
            rintro e w6 ⟨rfl, rfl⟩
            rw [HN0.out]
            go_wp2_with fail
            go_roundw
            case rel =>
              refine ⟨i + 1, by omega, by go_num, ⟨ρ', ?_, HXR.out⟩, HKA.out⟩
              have := HP6.out.mono (Nat.le_refl (N + 1)) (Nat.le_succ (M + i))
              simp only at this ⊢
              rw [HS0.out]; exact this
            case measure => simp [intOf]; omega
          · have HCH := Lib.hid hch
            have HCP := Lib.hid hcp2
            have HXC := Lib.hid hxc
            have HCG := Lib.hid hcg
            have HCB := Lib.hid hcp
            obtain ⟨a1, k1, hv1, _, _⟩ := hch.r1.slice
            obtain ⟨a2, k2, hv2, _, _⟩ := hch.r2.slice
            subst hv1
            subst hv2
            have c2' := hch.c2
            have c3' := hch.c3
            have z2 := hch.z 2
            have z3 := hch.z 3
            have HROWS := Lib.hid (HP6.out.rows kc c hcg)
            have hrs1 := HROWS.out.1
            have hrs2 := HROWS.out.2
            clear hch hcp2 hxc hcg hcp HC6
            by_cases h3 : xw = 3
            · subst h3
              have hrow := row_any (wr.alloc (.cells #[.int .i64 3, .int .i64 xc, .int .i64 xn] 85)) cb 3
              rw [if_pos rfl] at hrow
              have HROW := Lib.hid hrow
              have hclt : cb < (wr.alloc (.cells #[.int .i64 3, .int .i64 xc, .int .i64 xn] 85)).heap.size := block_lt_of_cell HCH.out.c0
              have hcb : ¬ (Value.slice a1 c.sends.length k1).ownBlock = some cb := fun e => by
                have h1 := HCH.out.p3 cb e
                rw [HCH.out.p0] at h1
                cases h1
              have HCLT := Lib.hid hclt
              have HNCB := Lib.hid hcb
              clear hrow hclt hcb
              go_wp2_with fail
              refine (channel_any HP6.out xc HM6.out).mono ?_
              rintro e w6 ⟨rfl, rfl⟩
              rw [HCP.out]
              go_wp2_with fail
              refine HROW.out.mono ?_
              rintro e w6 ⟨rfl, rfl⟩
              clear c1 c2 c3
              generalize wr.alloc (.cells #[.int .i64 3, .int .i64 xc, .int .i64 xn] 85) = w6 at *
              go_wp2_with (at_builtin; go_loud (refine wpList_appendW rfl _ _ rfl w6 _ c.sends task i HCH.out.r1 rfl rfl (by omega) ?_; intro a6 c6 w7 hO7 hK7 hN7; have HO7 := Lib.hid hO7; have HK7 := Lib.hid hK7; have HN7 := Lib.hid hN7; have y2 : w7.cell? ⟨cb, 2, none⟩ = some (Value.slice a1 c.sends.length k1) := hK7.cell_of c2' HNCB.out; have y3 : w7.frozen? ⟨cb, 2, none⟩ = false := (by rw [hK7.frozen (p := ⟨cb, 2, none⟩) HCLT.out HNCB.out]; exact z2); clear hO7 hK7 hN7))
              have HR7 : Hid (∀ g, (Value.slice a6 (c.sends.length + 1) c6).ownBlock = some g → roleFrom ρ' w6.heap.size w7.heap.size (.sends kc) g = .sends kc) := Lib.hid fun g hg => by
                rcases HN7.out g hg with h1 | h1
                · have h2 := HCH.out.p3 g h1
                  rw [roleFrom_old (HP6.out.dom g (by rw [h2]; simp))]; exact h2
                · exact roleFrom_new h1 (HO7.out.lt g hg)
              have HC7 := Lib.hid ((HCH.out.role (ρ' := roleFrom ρ' w6.heap.size w7.heap.size (.sends kc)) fun g hg => roleFrom_old hg).sends HK7.out HO7.out HR7.out)
              have HK8 : Hid (Keeps (fun g => (Value.slice a1 c.sends.length k1).ownBlock = some g ∨ g = cb) w6 (w7.setCell ⟨cb, 2, none⟩ (.slice a6 (c.sends.length + 1) c6))) := Lib.hid ((HK7.out.mono (S' := fun g => (Value.slice a1 c.sends.length k1).ownBlock = some g ∨ g = cb) fun _ _ e => Or.inl e).setCell (p := ⟨cb, 2, none⟩) (Or.inl (Or.inr rfl)) _)
              have HST : Hid (lay task s.chs (l.take (i + 1)) 0 = (lay task s.chs (l.take i) 0).set kc (c.lay task 3 i)) := Lib.hid ((lay_succ HX.out s.chs 0).trans (by rw [Nat.zero_add]; exact layAt_set HXC.out HCG.out))
              have HLAY : Hid (Ch.lay task 3 i c = { c with sends := c.sends ++ [(task, i)] }) := Lib.hid (by unfold Ch.lay; rw [if_pos rfl])
              have HJ7 : Hid (WaitJ w (w7.setCell ⟨cb, 2, none⟩ (.slice a6 (c.sends.length + 1) c6)) ρ pb vch ptr w.heap.size ((DataW.map []).put (.int .i64 task) (.held u)) (N + 1) M ⟨s.chs, fun x => if x = task then some l else s.asks x⟩ task l (i + 1)) := Lib.hid (by
                refine ⟨⟨roleFrom ρ' w6.heap.size w7.heap.size (.sends kc), ?_, fun g hg => ?_⟩, HKA.out.trans' HK8.out fun g hg e => ?_⟩
                · have h1 := HP6.out.put (M' := M + (i + 1)) (ρ' := roleFrom ρ' w6.heap.size w7.heap.size (.sends kc)) HK8.out (fun g hg => roleFrom_old hg) (fun g hg => by
                    have := roleFrom_dom HP6.out.dom HK7.out.size g hg
                    simpa using this) kc (c' := c.lay task 3 i) (fun g e => Or.inr (by
                    rcases e with e | e
                    · rw [HCH.out.p3 g e]; rfl
                    · rw [e, HCH.out.p0]; rfl)) (fun cb' hcb' => by
                      rw [HCB.out] at hcb'
                      cases hcb'
                      have h9 := HC7.out
                      rw [HLAY.out]
                      exact ⟨_, _, _, _, h9⟩) (by
                      rw [HLAY.out]
                      have h6 := HROWS.out
                      constructor
                      · show (c.sends ++ [(task, i)]).length ≤ _; rw [List.length_append, List.length_singleton]; omega
                      · show c.recvs.length ≤ _; omega) (by omega)
                  simp only at h1 ⊢
                  rw [HST.out]; exact h1
                · rw [roleFrom_old (Nat.lt_of_lt_of_le hg HKA.out.size)]; exact HXR.out g hg
                · rw [← HXR.out g hg]
                  rcases e with e | e
                  · rw [HCH.out.p3 g e]; simp
                  · rw [e, HCH.out.p0]; simp)
              clear c2' c3' z2 z3 hrs1 hrs2
              go_wp2_with fail
              go_roundw
              case rel => exact ⟨i + 1, by omega, by go_num, HJ7.out⟩
              case measure => simp [intOf]; omega
            · have e3 : (xw == 3) = false := by rw [beq_eq_false_iff_ne]; exact h3
              have hrow := row_any (wr.alloc (.cells #[.int .i64 xw, .int .i64 xc, .int .i64 xn] 85)) cb xw
              rw [if_neg h3] at hrow
              have HROW := Lib.hid hrow
              have hclt : cb < (wr.alloc (.cells #[.int .i64 xw, .int .i64 xc, .int .i64 xn] 85)).heap.size := block_lt_of_cell HCH.out.c0
              have hcb : ¬ (Value.slice a2 c.recvs.length k2).ownBlock = some cb := fun e => by
                have h1 := HCH.out.p4 cb e
                rw [HCH.out.p0] at h1
                cases h1
              have HCLT := Lib.hid hclt
              have HNCB := Lib.hid hcb
              clear hrow hclt hcb
              go_wp2_with fail
              refine (channel_any HP6.out xc HM6.out).mono ?_
              rintro e w6 ⟨rfl, rfl⟩
              rw [HCP.out]
              go_wp2_with fail
              refine HROW.out.mono ?_
              rintro e w6 ⟨rfl, rfl⟩
              clear c1 c2 c3
              generalize wr.alloc (.cells #[.int .i64 xw, .int .i64 xc, .int .i64 xn] 85) = w6 at *
              go_wp2_with (at_builtin; go_loud (refine wpList_appendW rfl _ _ rfl w6 _ c.recvs task i HCH.out.r2 rfl rfl (by omega) ?_; intro a6 c6 w7 hO7 hK7 hN7; have HO7 := Lib.hid hO7; have HK7 := Lib.hid hK7; have HN7 := Lib.hid hN7; have y2 : w7.cell? ⟨cb, 3, none⟩ = some (Value.slice a2 c.recvs.length k2) := hK7.cell_of c3' HNCB.out; have y3 : w7.frozen? ⟨cb, 3, none⟩ = false := (by rw [hK7.frozen (p := ⟨cb, 3, none⟩) HCLT.out HNCB.out]; exact z3); clear hO7 hK7 hN7))
              have HR7 : Hid (∀ g, (Value.slice a6 (c.recvs.length + 1) c6).ownBlock = some g → roleFrom ρ' w6.heap.size w7.heap.size (.recvs kc) g = .recvs kc) := Lib.hid fun g hg => by
                rcases HN7.out g hg with h1 | h1
                · have h2 := HCH.out.p4 g h1
                  rw [roleFrom_old (HP6.out.dom g (by rw [h2]; simp))]; exact h2
                · exact roleFrom_new h1 (HO7.out.lt g hg)
              have HC7 := Lib.hid ((HCH.out.role (ρ' := roleFrom ρ' w6.heap.size w7.heap.size (.recvs kc)) fun g hg => roleFrom_old hg).recvs HK7.out HO7.out HR7.out)
              have HK8 : Hid (Keeps (fun g => (Value.slice a2 c.recvs.length k2).ownBlock = some g ∨ g = cb) w6 (w7.setCell ⟨cb, 3, none⟩ (.slice a6 (c.recvs.length + 1) c6))) := Lib.hid ((HK7.out.mono (S' := fun g => (Value.slice a2 c.recvs.length k2).ownBlock = some g ∨ g = cb) fun _ _ e => Or.inl e).setCell (p := ⟨cb, 3, none⟩) (Or.inl (Or.inr rfl)) _)
              have HST : Hid (lay task s.chs (l.take (i + 1)) 0 = (lay task s.chs (l.take i) 0).set kc (c.lay task xw i)) := Lib.hid ((lay_succ HX.out s.chs 0).trans (by rw [Nat.zero_add]; exact layAt_set HXC.out HCG.out))
              have HLAY : Hid (Ch.lay task xw i c = { c with recvs := c.recvs ++ [(task, i)] }) := Lib.hid (by unfold Ch.lay; rw [if_neg h3])
              have HJ7 : Hid (WaitJ w (w7.setCell ⟨cb, 3, none⟩ (.slice a6 (c.recvs.length + 1) c6)) ρ pb vch ptr w.heap.size ((DataW.map []).put (.int .i64 task) (.held u)) (N + 1) M ⟨s.chs, fun x => if x = task then some l else s.asks x⟩ task l (i + 1)) := Lib.hid (by
                refine ⟨⟨roleFrom ρ' w6.heap.size w7.heap.size (.recvs kc), ?_, fun g hg => ?_⟩, HKA.out.trans' HK8.out fun g hg e => ?_⟩
                · have h1 := HP6.out.put (M' := M + (i + 1)) (ρ' := roleFrom ρ' w6.heap.size w7.heap.size (.recvs kc)) HK8.out (fun g hg => roleFrom_old hg) (fun g hg => by
                    have := roleFrom_dom HP6.out.dom HK7.out.size g hg
                    simpa using this) kc (c' := c.lay task xw i) (fun g e => Or.inr (by
                    rcases e with e | e
                    · rw [HCH.out.p4 g e]; rfl
                    · rw [e, HCH.out.p0]; rfl)) (fun cb' hcb' => by
                      rw [HCB.out] at hcb'
                      cases hcb'
                      have h9 := HC7.out
                      rw [HLAY.out]
                      exact ⟨_, _, _, _, h9⟩) (by
                      rw [HLAY.out]
                      have h6 := HROWS.out
                      constructor
                      · show c.sends.length ≤ _; omega
                      · show (c.recvs ++ [(task, i)]).length ≤ _; rw [List.length_append, List.length_singleton]; omega) (by omega)
                  simp only at h1 ⊢
                  rw [HST.out]; exact h1
                · rw [roleFrom_old (Nat.lt_of_lt_of_le hg HKA.out.size)]; exact HXR.out g hg
                · rw [← HXR.out g hg]
                  rcases e with e | e
                  · rw [HCH.out.p4 g e]; simp
                  · rw [e, HCH.out.p0]; simp)
              clear c2' c3' z2 z3 hrs1 hrs2
              go_wp2_with fail
              go_roundw
              case rel => exact ⟨i + 1, by omega, by go_num, HJ7.out⟩
              case measure => simp [intOf]; omega
        · obtain rfl : i = l.length := by omega
          have HE := HJ.out
          go_wp2_with fail
          go_end0
          obtain ⟨ρ', h1, h2⟩ := HE.at_
          rw [List.take_length] at h1
          refine ⟨rfl, ⟨ρ', _, _, h1.mono (Nat.le_refl _) (by omega), h2⟩, HE.keep⟩
  | some b =>
    have heq := run_eql_map_nil (P := Tryd.prog) w 29 3 32 (some b) Tryd.underlying29
    rw [Option.isNone_some] at heq
    have HP1 := Lib.hid h
    have HT1 := Lib.hid hl
    have HKF : Hid (Keeps (fun b => ρ b ≠ .free) w w) := Lib.hid (Keeps.refl _ _)
    clear h hl hwf hvo hg
    go_enter Tryd.func37, Tryd.ntmps37
    go_upto_region 2 with fail
    clear p1 heq
    have p2 := HP1.out.c1
    have HPBL : Hid (pb < w.heap.size) := Lib.hid HP1.out.lt
    have HTD : Hid (∀ n, TalksAt (w.drewN n) (.slice ao l.length cap) l) := Lib.hid fun n => HT1.out.keeps (keeps_drewN (Keeps.refl (fun _ => False) w) n) fun _ _ e => e
    go_region_with (go_at_call 49; refine (cloneT_any _ (HTD.out _) (by omega)).mono ?_; rintro e w3 ⟨u, rfl, ho3, hb3⟩; have HO3 : Hid (w3.ownsRow w.heap.size 85 3 u l.length (cellsL l)) := Lib.hid ho3; have HB3 : Hid (Below w.heap.size w w3) := Lib.hid ⟨hb3.os, hb3.tape, hb3.output, hb3.size, hb3.block⟩; have p3 : w3.cell? ⟨pb, 1, none⟩ = some (.map (some b)) := (HB3.out.cell (p := ⟨pb, 1, none⟩) HPBL.out).trans p2; obtain ⟨w4, hmu, hown4, hgrow4⟩ := World.ownsMap.update ((Keeps.of_new HB3.out).map (S := fun _ => False) (HP1.out.map1 _ rfl).1 id) keyedP Tryd.underlying29 (by unfold maxLen; omega) (keyOf_int_mk Tryd.underlying3 HWF.out) (val := u) (d := .held u) (ps := []) rfl; have HO4 := Lib.hid hown4; have HG4 := Lib.hid hgrow4; clear ho3 hb3 hown4 hgrow4)
    all_goals
      have HK34 : Hid (Keeps (fun g => g = b) w3 w4) := Lib.hid (Keeps.of_grownBy HG4.out fun g _ e => by cases e; rfl)
      have HP4 : Hid (PipesAt w4 (roleFrom ρ w.heap.size w3.heap.size (.talks task)) pb vch ptr (some b) (D.put (.int .i64 task) (.held u)) (N + 1) M ⟨s.chs, fun x => if x = task then some l else s.asks x⟩) := Lib.hid (by
        have h3 := HP1.out.same (ρ' := roleFrom ρ w.heap.size w3.heap.size (.talks task)) (Keeps.of_new (S := fun _ => False) HB3.out) (fun g hg => roleFrom_old hg) (roleFrom_dom HP1.out.dom HB3.out.size) fun _ e => e.elim
        refine h3.note rfl HWF.out HK34.out HO4.out (talks_of_own HO3.out) fun g hg => ?_
        have := World.ownsRow.lt HO3.out g hg
        exact roleFrom_new this.1 this.2)
      have HX4 : Hid (∀ g, g < w.heap.size → roleFrom ρ w.heap.size w3.heap.size (.talks task) g = ρ g) := Lib.hid fun g hg => (roleFrom_old (Nat.lt_of_lt_of_le hg HKF.out.size)).trans ((fun _ _ => rfl) g hg)
      have HK4 : Hid (Keeps (fun g => ρ g ≠ .free) w w4) := Lib.hid ((HKF.out.trans (Keeps.of_new HB3.out)).trans' HK34.out fun g hg e => by
        have h1 := (HP1.out.map1 _ rfl).2
        have hx9 : ρ g = ρ g := (fun _ _ => rfl) g hg
        rw [← hx9, e, h1]; simp)
      have HJ0 : Hid (WaitJ w w4 ρ pb vch ptr b (D.put (.int .i64 task) (.held u)) (N + 1) M ⟨s.chs, fun x => if x = task then some l else s.asks x⟩ task l 0) := Lib.hid ⟨⟨_, HP4.out, HX4.out⟩, HK4.out⟩
      clear p2 p3 hmu
      go_wp2_with fail
      go_loopw [28] (fun t wr => ∃ i : Nat, i ≤ l.length ∧ t = .int .i64 i ∧ WaitJ w wr ρ pb vch ptr b (D.put (.int .i64 task) (.held u)) (N + 1) M ⟨s.chs, fun x => if x = task then some l else s.asks x⟩ task l i) (fun t _ => l.length - (intOf t).toNat)
      case atStart => exact ⟨0, Nat.zero_le _, rfl, HJ0.out⟩
      case round =>
        obtain ⟨i, hi, rfl, hJ⟩ := hrel
        have HJ := Lib.hid hJ
        clear hJ HJ0
        by_cases hil : i < l.length
        · obtain ⟨x, hx⟩ : ∃ x, l[i]? = some x := ⟨_, List.getElem?_eq_getElem hil⟩
          have HX := Lib.hid hx
          have HGX := Lib.hid (HG.out x (List.mem_of_getElem? hx))
          obtain ⟨ρ', hp, hxr⟩ := HJ.out.at_
          have htr : TalksAt wr (.slice ao l.length cap) l := HTW.out.keeps HJ.out.keep fun g hg e => e (HVO.out g hg)
          obtain ⟨tb, o, rfl, htb, c1, c2, c3⟩ := htr.at hx
          have hii : (0 : Int) ≤ (i : Int) ∧ (i : Int) < (l.length : Int) := by omega
          obtain ⟨xw, xc, xn⟩ := x
          simp only at c1 c2 c3
          have hka : Keeps (fun _ => False) wr (wr.alloc (.cells #[.int .i64 xw, .int .i64 xc, .int .i64 xn] 85)) := (Keeps.refl _ wr).alloc _
          have HP6 := Lib.hid (hp.keeps hka fun _ _ e => e.elim)
          have HKA := Lib.hid (HJ.out.keep.trans' hka fun _ _ e => e.elim)
          have HXR := Lib.hid hxr
          have hm6 : may (lay task s.chs (l.take i) 0).length xc = true := by
            rw [lay_len]
            unfold may
            obtain ⟨h1, _⟩ := HGX.out
            simp only at h1
            simp [h1.1, h1.2]
          have HM6 := Lib.hid hm6
          have HC6 := Lib.hid (HP6.out.chan hm6)
          clear hka hm6 hx htr hp hxr htb
          rcases HC6.out with ⟨h0, hn0, _⟩ | ⟨kc, cb, rb, sb, v1, v2, c, hxc, hcg, hcp, hcp2, _, hch⟩
          · have HN0 := Lib.hid hn0
            have HS0 : Hid (lay task s.chs (l.take (i + 1)) 0 = lay task s.chs (l.take i) 0) := Lib.hid ((lay_succ HX.out s.chs 0).trans (layAt_zero h0))
            clear hn0 h0 HC6
            go_wp2_with fail
            refine (channel_any HP6.out xc HM6.out).mono ?_
            rintro e w6 ⟨rfl, rfl⟩
            rw [HN0.out]
            go_wp2_with fail
            go_roundw
            case rel =>
              refine ⟨i + 1, by omega, by go_num, ⟨ρ', ?_, HXR.out⟩, HKA.out⟩
              have := HP6.out.mono (Nat.le_refl (N + 1)) (Nat.le_succ (M + i))
              simp only at this ⊢
              rw [HS0.out]; exact this
            case measure => simp [intOf]; omega
          · have HCH := Lib.hid hch
            have HCP := Lib.hid hcp2
            have HXC := Lib.hid hxc
            have HCG := Lib.hid hcg
            have HCB := Lib.hid hcp
            obtain ⟨a1, k1, hv1, _, _⟩ := hch.r1.slice
            obtain ⟨a2, k2, hv2, _, _⟩ := hch.r2.slice
            subst hv1
            subst hv2
            have c2' := hch.c2
            have c3' := hch.c3
            have z2 := hch.z 2
            have z3 := hch.z 3
            have HROWS := Lib.hid (HP6.out.rows kc c hcg)
            have hrs1 := HROWS.out.1
            have hrs2 := HROWS.out.2
            clear hch hcp2 hxc hcg hcp HC6
            by_cases h3 : xw = 3
            · subst h3
              have hrow := row_any (wr.alloc (.cells #[.int .i64 3, .int .i64 xc, .int .i64 xn] 85)) cb 3
              rw [if_pos rfl] at hrow
              have HROW := Lib.hid hrow
              have hclt : cb < (wr.alloc (.cells #[.int .i64 3, .int .i64 xc, .int .i64 xn] 85)).heap.size := block_lt_of_cell HCH.out.c0
              have hcb : ¬ (Value.slice a1 c.sends.length k1).ownBlock = some cb := fun e => by
                have h1 := HCH.out.p3 cb e
                rw [HCH.out.p0] at h1
                cases h1
              have HCLT := Lib.hid hclt
              have HNCB := Lib.hid hcb
              clear hrow hclt hcb
              go_wp2_with fail
              refine (channel_any HP6.out xc HM6.out).mono ?_
              rintro e w6 ⟨rfl, rfl⟩
              rw [HCP.out]
              go_wp2_with fail
              refine HROW.out.mono ?_
              rintro e w6 ⟨rfl, rfl⟩
              clear c1 c2 c3
              generalize wr.alloc (.cells #[.int .i64 3, .int .i64 xc, .int .i64 xn] 85) = w6 at *
              go_wp2_with (at_builtin; go_loud (refine wpList_appendW rfl _ _ rfl w6 _ c.sends task i HCH.out.r1 rfl rfl (by omega) ?_; intro a6 c6 w7 hO7 hK7 hN7; have HO7 := Lib.hid hO7; have HK7 := Lib.hid hK7; have HN7 := Lib.hid hN7; have y2 : w7.cell? ⟨cb, 2, none⟩ = some (Value.slice a1 c.sends.length k1) := hK7.cell_of c2' HNCB.out; have y3 : w7.frozen? ⟨cb, 2, none⟩ = false := (by rw [hK7.frozen (p := ⟨cb, 2, none⟩) HCLT.out HNCB.out]; exact z2); clear hO7 hK7 hN7))
              have HR7 : Hid (∀ g, (Value.slice a6 (c.sends.length + 1) c6).ownBlock = some g → roleFrom ρ' w6.heap.size w7.heap.size (.sends kc) g = .sends kc) := Lib.hid fun g hg => by
                rcases HN7.out g hg with h1 | h1
                · have h2 := HCH.out.p3 g h1
                  rw [roleFrom_old (HP6.out.dom g (by rw [h2]; simp))]; exact h2
                · exact roleFrom_new h1 (HO7.out.lt g hg)
              have HC7 := Lib.hid ((HCH.out.role (ρ' := roleFrom ρ' w6.heap.size w7.heap.size (.sends kc)) fun g hg => roleFrom_old hg).sends HK7.out HO7.out HR7.out)
              have HK8 : Hid (Keeps (fun g => (Value.slice a1 c.sends.length k1).ownBlock = some g ∨ g = cb) w6 (w7.setCell ⟨cb, 2, none⟩ (.slice a6 (c.sends.length + 1) c6))) := Lib.hid ((HK7.out.mono (S' := fun g => (Value.slice a1 c.sends.length k1).ownBlock = some g ∨ g = cb) fun _ _ e => Or.inl e).setCell (p := ⟨cb, 2, none⟩) (Or.inl (Or.inr rfl)) _)
              have HST : Hid (lay task s.chs (l.take (i + 1)) 0 = (lay task s.chs (l.take i) 0).set kc (c.lay task 3 i)) := Lib.hid ((lay_succ HX.out s.chs 0).trans (by rw [Nat.zero_add]; exact layAt_set HXC.out HCG.out))
              have HLAY : Hid (Ch.lay task 3 i c = { c with sends := c.sends ++ [(task, i)] }) := Lib.hid (by unfold Ch.lay; rw [if_pos rfl])
              have HJ7 : Hid (WaitJ w (w7.setCell ⟨cb, 2, none⟩ (.slice a6 (c.sends.length + 1) c6)) ρ pb vch ptr b (D.put (.int .i64 task) (.held u)) (N + 1) M ⟨s.chs, fun x => if x = task then some l else s.asks x⟩ task l (i + 1)) := Lib.hid (by
                refine ⟨⟨roleFrom ρ' w6.heap.size w7.heap.size (.sends kc), ?_, fun g hg => ?_⟩, HKA.out.trans' HK8.out fun g hg e => ?_⟩
                · have h1 := HP6.out.put (M' := M + (i + 1)) (ρ' := roleFrom ρ' w6.heap.size w7.heap.size (.sends kc)) HK8.out (fun g hg => roleFrom_old hg) (fun g hg => by
                    have := roleFrom_dom HP6.out.dom HK7.out.size g hg
                    simpa using this) kc (c' := c.lay task 3 i) (fun g e => Or.inr (by
                    rcases e with e | e
                    · rw [HCH.out.p3 g e]; rfl
                    · rw [e, HCH.out.p0]; rfl)) (fun cb' hcb' => by
                      rw [HCB.out] at hcb'
                      cases hcb'
                      have h9 := HC7.out
                      rw [HLAY.out]
                      exact ⟨_, _, _, _, h9⟩) (by
                      rw [HLAY.out]
                      have h6 := HROWS.out
                      constructor
                      · show (c.sends ++ [(task, i)]).length ≤ _; rw [List.length_append, List.length_singleton]; omega
                      · show c.recvs.length ≤ _; omega) (by omega)
                  simp only at h1 ⊢
                  rw [HST.out]; exact h1
                · rw [roleFrom_old (Nat.lt_of_lt_of_le hg HKA.out.size)]; exact HXR.out g hg
                · rw [← HXR.out g hg]
                  rcases e with e | e
                  · rw [HCH.out.p3 g e]; simp
                  · rw [e, HCH.out.p0]; simp)
              clear c2' c3' z2 z3 hrs1 hrs2
              go_wp2_with fail
              go_roundw
              case rel => exact ⟨i + 1, by omega, by go_num, HJ7.out⟩
              case measure => simp [intOf]; omega
            · have e3 : (xw == 3) = false := by rw [beq_eq_false_iff_ne]; exact h3
              have hrow := row_any (wr.alloc (.cells #[.int .i64 xw, .int .i64 xc, .int .i64 xn] 85)) cb xw
              rw [if_neg h3] at hrow
              have HROW := Lib.hid hrow
              have hclt : cb < (wr.alloc (.cells #[.int .i64 xw, .int .i64 xc, .int .i64 xn] 85)).heap.size := block_lt_of_cell HCH.out.c0
              have hcb : ¬ (Value.slice a2 c.recvs.length k2).ownBlock = some cb := fun e => by
                have h1 := HCH.out.p4 cb e
                rw [HCH.out.p0] at h1
                cases h1
              have HCLT := Lib.hid hclt
              have HNCB := Lib.hid hcb
              clear hrow hclt hcb
              go_wp2_with fail
              refine (channel_any HP6.out xc HM6.out).mono ?_
              rintro e w6 ⟨rfl, rfl⟩
              rw [HCP.out]
              go_wp2_with fail
              refine HROW.out.mono ?_
              rintro e w6 ⟨rfl, rfl⟩
              clear c1 c2 c3
              generalize wr.alloc (.cells #[.int .i64 xw, .int .i64 xc, .int .i64 xn] 85) = w6 at *
              go_wp2_with (at_builtin; go_loud (refine wpList_appendW rfl _ _ rfl w6 _ c.recvs task i HCH.out.r2 rfl rfl (by omega) ?_; intro a6 c6 w7 hO7 hK7 hN7; have HO7 := Lib.hid hO7; have HK7 := Lib.hid hK7; have HN7 := Lib.hid hN7; have y2 : w7.cell? ⟨cb, 3, none⟩ = some (Value.slice a2 c.recvs.length k2) := hK7.cell_of c3' HNCB.out; have y3 : w7.frozen? ⟨cb, 3, none⟩ = false := (by rw [hK7.frozen (p := ⟨cb, 3, none⟩) HCLT.out HNCB.out]; exact z3); clear hO7 hK7 hN7))
              have HR7 : Hid (∀ g, (Value.slice a6 (c.recvs.length + 1) c6).ownBlock = some g → roleFrom ρ' w6.heap.size w7.heap.size (.recvs kc) g = .recvs kc) := Lib.hid fun g hg => by
                rcases HN7.out g hg with h1 | h1
                · have h2 := HCH.out.p4 g h1
                  rw [roleFrom_old (HP6.out.dom g (by rw [h2]; simp))]; exact h2
                · exact roleFrom_new h1 (HO7.out.lt g hg)
              have HC7 := Lib.hid ((HCH.out.role (ρ' := roleFrom ρ' w6.heap.size w7.heap.size (.recvs kc)) fun g hg => roleFrom_old hg).recvs HK7.out HO7.out HR7.out)
              have HK8 : Hid (Keeps (fun g => (Value.slice a2 c.recvs.length k2).ownBlock = some g ∨ g = cb) w6 (w7.setCell ⟨cb, 3, none⟩ (.slice a6 (c.recvs.length + 1) c6))) := Lib.hid ((HK7.out.mono (S' := fun g => (Value.slice a2 c.recvs.length k2).ownBlock = some g ∨ g = cb) fun _ _ e => Or.inl e).setCell (p := ⟨cb, 3, none⟩) (Or.inl (Or.inr rfl)) _)
              have HST : Hid (lay task s.chs (l.take (i + 1)) 0 = (lay task s.chs (l.take i) 0).set kc (c.lay task xw i)) := Lib.hid ((lay_succ HX.out s.chs 0).trans (by rw [Nat.zero_add]; exact layAt_set HXC.out HCG.out))
              have HLAY : Hid (Ch.lay task xw i c = { c with recvs := c.recvs ++ [(task, i)] }) := Lib.hid (by unfold Ch.lay; rw [if_neg h3])
              have HJ7 : Hid (WaitJ w (w7.setCell ⟨cb, 3, none⟩ (.slice a6 (c.recvs.length + 1) c6)) ρ pb vch ptr b (D.put (.int .i64 task) (.held u)) (N + 1) M ⟨s.chs, fun x => if x = task then some l else s.asks x⟩ task l (i + 1)) := Lib.hid (by
                refine ⟨⟨roleFrom ρ' w6.heap.size w7.heap.size (.recvs kc), ?_, fun g hg => ?_⟩, HKA.out.trans' HK8.out fun g hg e => ?_⟩
                · have h1 := HP6.out.put (M' := M + (i + 1)) (ρ' := roleFrom ρ' w6.heap.size w7.heap.size (.recvs kc)) HK8.out (fun g hg => roleFrom_old hg) (fun g hg => by
                    have := roleFrom_dom HP6.out.dom HK7.out.size g hg
                    simpa using this) kc (c' := c.lay task xw i) (fun g e => Or.inr (by
                    rcases e with e | e
                    · rw [HCH.out.p4 g e]; rfl
                    · rw [e, HCH.out.p0]; rfl)) (fun cb' hcb' => by
                      rw [HCB.out] at hcb'
                      cases hcb'
                      have h9 := HC7.out
                      rw [HLAY.out]
                      exact ⟨_, _, _, _, h9⟩) (by
                      rw [HLAY.out]
                      have h6 := HROWS.out
                      constructor
                      · show c.sends.length ≤ _; omega
                      · show (c.recvs ++ [(task, i)]).length ≤ _; rw [List.length_append, List.length_singleton]; omega) (by omega)
                  simp only at h1 ⊢
                  rw [HST.out]; exact h1
                · rw [roleFrom_old (Nat.lt_of_lt_of_le hg HKA.out.size)]; exact HXR.out g hg
                · rw [← HXR.out g hg]
                  rcases e with e | e
                  · rw [HCH.out.p4 g e]; simp
                  · rw [e, HCH.out.p0]; simp)
              clear c2' c3' z2 z3 hrs1 hrs2
              go_wp2_with fail
              go_roundw
              case rel => exact ⟨i + 1, by omega, by go_num, HJ7.out⟩
              case measure => simp [intOf]; omega
        · obtain rfl : i = l.length := by omega
          have HE := HJ.out
          go_wp2_with fail
          go_end0
          obtain ⟨ρ', h1, h2⟩ := HE.at_
          rw [List.take_length] at h1
          refine ⟨rfl, ⟨ρ', _, _, h1.mono (Nat.le_refl _) (by omega), h2⟩, HE.keep⟩
end Go.Proofs.YtpehmghnfbkaaaaDoor
