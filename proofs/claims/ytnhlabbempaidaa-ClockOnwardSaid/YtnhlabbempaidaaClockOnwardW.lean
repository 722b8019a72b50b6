/-
  The walk of the law ClockOnward: time never falls, what comes is not over, and nothing comes that was taken away.
-/
import Derived.Test.YtnhlabbempaidaaClockFact
import Derived.Test.YtnhlabbempaidaaPick
namespace Go.Proofs.Ytnhlabbempaidaa
open Go.RowKit Go.Maps

/-- A key that was not noted. -/
def Zero (G : DataW Unit) (k : Int) : Prop := G.atKey (.int .i64 k) (.lit (.int .i64 0)) = .lit (.int .i64 0)
theorem zero_put {G : DataW Unit} (hG : Tidy G) {k j : Int} (h : Zero G k) (hne : k ≠ j) (d : DataW Unit) : Zero (G.put (.int .i64 j) d) k := by
  unfold Zero
  rw [at_put hG, if_neg hne]; exact h
/-- The clock and what was taken away, between two rounds. -/
structure Onw (w wr : World) (cb gb : Nat) (F : Nat → Prop) (now : Int) (l : List Hp.E) (G : DataW Unit) (gn i : Nat) (rest : List Int) : Prop where
  c : ClockAt wr cb F now l
  g : wr.ownsMap Try.prog 3 (plainElem Try.prog 3) gb gn G
  ng : ¬ F gb
  lo : ∀ b, F b → w.heap.size ≤ b
  glo : w.heap.size ≤ gb
  small : ∀ e ∈ l, 0 ≤ e.2 ∧ e.2 < (i : Int)
  zero : ∀ k : Int, ((i : Int) ≤ k ∨ IdIn l k ∨ k ∈ rest) → Zero G k
  below : Below w.heap.size w wr
  len : l.length ≤ i
theorem Onw.keepF {w wr w2 : World} {cb gb gn i : Nat} {F F' : Nat → Prop} {now now' : Int} {l l' : List Hp.E} {G : DataW Unit} {rest rest' : List Int} {i' : Nat} (h : Onw w wr cb gb F now l G gn i rest) (hc : ClockAt w2 cb F' now' l') (hg : Grows wr F F') (hk : Keeps F wr w2)
    (hs : ∀ e ∈ l', 0 ≤ e.2 ∧ e.2 < (i' : Int)) (hln : l'.length ≤ i') (hz : ∀ k : Int, ((i' : Int) ≤ k ∨ IdIn l' k ∨ k ∈ rest') → (i : Int) ≤ k ∨ IdIn l k ∨ k ∈ rest) : Onw w w2 cb gb F' now' l' G gn i' rest' :=
  ⟨hc, hk.map h.g h.ng, fun e => by
    rcases hg gb e with e | e
    · exact h.ng e
    · have := h.g.lt; omega, hg.lo h.lo h.below.size, h.glo, hs, fun k hk => h.zero k (hz k hk), h.below.trans (hk.below h.below.size (fun b _ hb => h.lo b hb)), hln⟩
theorem Onw.note {w wr w2 : World} {cb gb gn i : Nat} {F : Nat → Prop} {now : Int} {l : List Hp.E} {G : DataW Unit} {rest rest' : List Int} {i' : Nat} (h : Onw w wr cb gb F now l G gn i rest) (j : Int) (d : DataW Unit) (hm : w2.ownsMap Try.prog 3 (plainElem Try.prog 3) gb (gn + 1) (G.put (.int .i64 j) d))
    (hg : wr.grownBy w2 (some gb)) (hs : ∀ e ∈ l, 0 ≤ e.2 ∧ e.2 < (i' : Int)) (hln : l.length ≤ i') (hz : ∀ k : Int, ((i' : Int) ≤ k ∨ IdIn l k ∨ k ∈ rest') → ((i : Int) ≤ k ∨ IdIn l k ∨ k ∈ rest) ∧ k ≠ j) : Onw w w2 cb gb F now l (G.put (.int .i64 j) d) (gn + 1) i' rest' := by
  have hk : Keeps (fun b => b = gb) wr w2 := Keeps.of_grownBy hg fun k _ e => by cases e; rfl
  refine ⟨h.c.keeps hk (fun b hb e => h.ng (e ▸ hb)), hm, h.ng, h.lo, h.glo, hs, fun k hk => ?_, h.below.trans (hk.below h.below.size (fun b _ hb => by rw [hb]; exact h.glo)), hln⟩
  obtain ⟨h1, h2⟩ := hz k hk
  exact zero_put (h.g.tidy keyedI) (h.zero k h1) h2 d

theorem map_ids (m : Int) (ids : List Int) : (ids.map (fun i => (m, i))).map (·.2) = ids := by rw [List.map_map]; exact List.map_id' ids
/-- What came out is in the clock no more. -/
theorem ids_apart {m : Int} {l l' : List Hp.E} {ids : List Int} (hn : (l.map (·.2)).Nodup) (hp : l.Perm (ids.map (fun i => (m, i)) ++ l')) : ∀ y ∈ ids, ¬ IdIn l' y := fun y hy hi => by
  have h1 := (hp.map (·.2)).nodup_iff.1 hn
  rw [List.map_append, map_ids, List.nodup_append] at h1
  obtain ⟨e, he, rfl⟩ := idIn_iff.1 hi
  exact h1.2.2 _ hy _ (List.mem_map.2 ⟨e, he, rfl⟩) rfl
theorem ids_in {m : Int} {l l' : List Hp.E} {ids : List Int} (hp : l.Perm (ids.map (fun i => (m, i)) ++ l')) : ∀ y ∈ ids, (m, y) ∈ l := fun y hy => hp.mem_iff.2 (List.mem_append_left _ (List.mem_map.2 ⟨y, hy, rfl⟩))
theorem drop_apart {t id : Int} {l l' : List Hp.E} (hn : (l.map (·.2)).Nodup) (hp : l.Perm ((t, id) :: l')) : ¬ IdIn l' id := fun hi => by
  have h1 := (hp.map (·.2)).nodup_iff.1 hn
  rw [List.map_cons, List.nodup_cons] at h1
  obtain ⟨e, he, h2⟩ := idIn_iff.1 hi
  exact h1.1 (List.mem_map.2 ⟨e, he, h2⟩)
theorem idIn_sub {l l' : List Hp.E} (h : ∀ e ∈ l', e ∈ l) {id : Int} (hi : IdIn l' id) : IdIn l id := by
  obtain ⟨e, he, h2⟩ := idIn_iff.1 hi
  exact idIn_iff.2 ⟨e, h e he, h2⟩
/-- Behind Set. -/
theorem Onw.set {w wr w2 : World} {cb gb gn k : Nat} {F F' : Nat → Prop} {now x : Int} {l l' : List Hp.E} {G : DataW Unit} {r : Value} (h : Onw w wr cb gb F now l G gn k []) (hc : ClockAt w2 cb F' now l') (hg : Grows wr F F') (hk : Keeps F wr w2) (hr : SetR now l x (k : Int) r l') :
    Onw w w2 cb gb F' now l' G gn (k + 1) [] := by
  have key : ∀ e ∈ l', e ∈ l ∨ e = (x, (k : Int)) := by
    rcases hr with ⟨_, _, rfl⟩ | ⟨_, _, _, rfl⟩ | ⟨_, _, _, hp⟩
    · exact fun e he => Or.inl he
    · exact fun e he => Or.inl he
    · intro e he
      rcases List.mem_append.1 (hp.mem_iff.1 he) with h1 | h1
      · exact Or.inl h1
      · exact Or.inr (List.mem_singleton.1 h1)
  have hln : l'.length ≤ k + 1 := by
    have := h.len
    rcases hr with ⟨_, _, rfl⟩ | ⟨_, _, _, rfl⟩ | ⟨_, _, _, hp⟩
    · omega
    · omega
    · rw [hp.length_eq, List.length_append]; simp; omega
  refine h.keepF hc hg hk (fun e he => ?_) hln (fun j hj => ?_)
  · rcases key e he with h1 | rfl
    · have := h.small e h1; omega
    · simp; omega
  · rcases hj with hj | hj | hj
    · exact Or.inl (by omega)
    · obtain ⟨e, he, rfl⟩ := idIn_iff.1 hj
      rcases key e he with h1 | rfl
      · exact Or.inr (Or.inl (idIn_iff.2 ⟨e, h1, rfl⟩))
      · exact Or.inl (Int.le_refl _)
    · cases hj
/-- Behind Due. -/
theorem Onw.due {w wr w2 : World} {cb gb gn k : Nat} {F : Nat → Prop} {now m : Int} {l l' : List Hp.E} {G : DataW Unit} {ids : List Int} (h : Onw w wr cb gb F now l G gn k []) (hc : ClockAt w2 cb F m l') (hk : Keeps F wr w2) (hr : DueR now l ids m l') :
    Onw w w2 cb gb F m l' G gn k ids ∧ now ≤ m ∧ ids.length ≤ k ∧ (∀ y ∈ ids, y < (k : Int) ∧ ¬ IdIn l' y ∧ 0 ≤ y) ∧ ids.Pairwise (· < ·) := by
  rcases hr with ⟨rfl, rfl, rfl, rfl⟩ | ⟨h1, _, hp, hs, _⟩
  · exact ⟨h.keepF hc (fun b hb => Or.inl hb) hk h.small h.len (fun j hj => hj), Int.le_refl _, Nat.zero_le _, (fun y hy => by cases hy), List.Pairwise.nil⟩
  · have hln : ids.length + l'.length = l.length := by have := hp.length_eq; simp at this; omega
    have hl := h.len
    have hsub : ∀ e ∈ l', e ∈ l := fun e he => hp.mem_iff.2 (List.mem_append_right _ he)
    refine ⟨h.keepF hc (fun b hb => Or.inl hb) hk (fun e he => h.small e (hsub e he)) (by omega) (fun j hj => ?_), h1, by omega, fun y hy => ⟨(h.small _ (ids_in hp y hy)).2, ids_apart h.c.once hp y hy, (h.small _ (ids_in hp y hy)).1⟩, hs⟩
    rcases hj with hj | hj | hj
    · exact Or.inl hj
    · exact Or.inr (Or.inl (idIn_sub hsub hj))
    · exact Or.inr (Or.inl (idIn_iff.2 ⟨_, ids_in hp j hj, rfl⟩))

set_option maxRecDepth 100000 in
set_option maxHeartbeats 6400000 in
theorem clockOnward_any (v : Value) (l : List Int) (u : Value) (ds : List Int) (w : World) (hv : NumsAt .i64 w v l) (hu : NumsAt .i64 w u ds) :
    Calls Try.prog 4 #[v, u] w fun e w' => e = .returned (.bool true) ∧ Below w.heap.size w w' := by
  obtain ⟨ao, n, cap, rfl, hn, hnc, hcm, hx, -⟩ := hv
  obtain ⟨aq, m, cap2, rfl, hm, hmc, hcm2, hxq, -⟩ := hu
  unfold maxLen at hcm hcm2
  by_cases hbig : 100 < n ∨ 100 < m
  · by_cases hb1 : 100 < n
    · have h1i : (100 : Int) < (n : Int) := by omega
      go_enter Try.func4, Try.ntmps4
      go_wp2_with fail
      refine (clocked_any _).mono ?_
      rintro e w1 ⟨rfl, hb1⟩
      go_wp2_with fail
      go_ret
      exact ⟨rfl, hb1⟩
    · have h1i : ¬ (100 : Int) < (n : Int) := by omega
      have h2i : (100 : Int) < (m : Int) := by omega
      go_enter Try.func4, Try.ntmps4
      go_wp2_with fail
      refine (clocked_any _).mono ?_
      rintro e w1 ⟨rfl, hb1⟩
      go_wp2_with fail
      go_ret
      exact ⟨rfl, hb1⟩
  · have h1i : ¬ (100 : Int) < (n : Int) := by omega
    have h2i : ¬ (100 : Int) < (m : Int) := by omega
    have hn100 : n ≤ 100 := by omega
    have HX := Lib.hid hx
    have HXQ := Lib.hid hxq
    have HN := Lib.hid hn
    have hmm := @run_makeMap Try.prog
    clear hx hxq hn hm hbig
    go_enter Try.func4, Try.ntmps4
    go_wp2_with fail
    refine (clocked_any _).mono ?_
    rintro e w1 ⟨rfl, hb1⟩
    have HB1 := Lib.hid hb1
    clear hb1
    go_wp2_with fail
    -- the clock and the map are laid
    have hC0 := fresh_clock w1
    have HO0 : Hid (Onw w ((w1.alloc (.cells #[.int .i64 0, .slice none 0 0, .map none, .nilFunc] 31)).alloc (.map #[] 0)) w1.heap.size (w1.heap.size + 1) (fun b => b = w1.heap.size) 0 [] (.map []) 0 0 []) := Lib.hid (by
      have hs1 := HB1.out.size
      have hm := World.ownsMap_made (w1.alloc (.cells #[.int .i64 0, .slice none 0 0, .map none, .nilFunc] 31)) Try.prog 3 (plainElem (H := Unit) Try.prog 3)
      rw [World.size_alloc] at hm
      exact ⟨hC0.next ((Below.refl _ _).alloc (Nat.le_refl _) _), hm, (fun e => by omega), (fun b hb => by rw [hb]; exact hs1), by omega, (fun e he => by cases he), (fun j _ => rfl), (HB1.out.alloc hs1 _).alloc (by simp; omega) _, Nat.le_refl _⟩)
    clear hC0
    generalize (w1.alloc (.cells #[.int .i64 0, .slice none 0 0, .map none, .nilFunc] 31)).alloc (.map #[] 0) = w2 at *
    go_loopw [7, 8] (fun nv i wr => ∃ (k : Nat) (F : Nat → Prop) (now : Int) (l : List Hp.E) (G : DataW Unit) (gn : Nat), k ≤ n ∧ i = .int .i64 k ∧ nv = .int .i64 now ∧ gn ≤ 300 * k ∧ Onw w wr w1.heap.size (w1.heap.size + 1) F now l G gn k []) (fun _ i _ => n - (intOf i).toNat)
    case atStart => exact ⟨0, _, 0, _, _, 0, Nat.zero_le _, rfl, rfl, Nat.le_refl _, HO0.out⟩
    case round =>
      obtain ⟨k, F, now, le, G, gn, hk, rfl, rfl, hgn, hon⟩ := hrel
      clear HO0
      have HO := Lib.hid hon
      clear hon
      by_cases hkn : k < n
      · obtain ⟨b, o, rfl, hbl, hcell⟩ := HX.out (by omega)
        have hc := hcell k hkn
        rw [← HO.out.below.cell (p := ⟨b, o + k, none⟩) hbl] at hc
        have hln : le.length < 1000 := by have := HO.out.len; omega
        have hwk : (Lit.int .i64 (k : Int)).wf = true := wf_small _ (by omega) (by omega)
        have HWK := Lib.hid hwk
        clear hcell hbl hwk
        generalize l.getD k 0 = x at *
        have hqq : (k < m ∧ ∃ bq oq, aq = some ⟨bq, oq, none⟩ ∧ bq < w.heap.size ∧ w.cell? ⟨bq, oq + k, none⟩ = some (.int .i64 (ds.getD k 0))) ∨ ¬ k < m := by
          by_cases hko : k < m
          · obtain ⟨bq, oq, e, hblq, hcellq⟩ := HXQ.out (by omega)
            exact Or.inl ⟨hko, bq, oq, e, hblq, hcellq k hko⟩
          · exact Or.inr hko
        generalize ds.getD k 0 = dk at *
        rcases hqq with ⟨hkm, bq, oq, rfl, hblq, hcq0⟩ | hkm
        · have HCQ : Hid (∀ W : World, Below w.heap.size w W → W.cell? ⟨bq, oq + k, none⟩ = some (.int .i64 dk)) := Lib.hid fun W h => by rw [h.cell (p := ⟨bq, oq + k, none⟩) hblq]; exact hcq0
          have hkmi : (0 : Int) ≤ (k : Int) ∧ (k : Int) < (m : Int) := by omega
          clear hcq0 hblq
          go_wp2_with fail
          refine (cset_any _ HO.out.c x k HWK.out hln).mono ?_
          rintro e w3 ⟨r3, F3, l3, rfl, hC3, hG3, hK3, hR3⟩
          have HO3 := Lib.hid (HO.out.set hC3 hG3 hK3 hR3)
          have hcq := HCQ.out _ HO3.out.below
          clear hC3 hG3 hK3 hR3
          go_wp2_with fail
          rw [show (k : Int) + 1 = ((k + 1 : Nat) : Int) by omega]
          refine (pick_any dk (k + 1) _ (by omega) (by omega)).mono ?_
          rintro e w4 ⟨pk, hpk, rfl, rfl⟩
          have hwp : (Lit.int .i64 (pk : Int)).wf = true := wf_small _ (by omega) (by omega)
          have HWP := Lib.hid hwp
          clear hwp
          go_wp2_with fail
          refine (cwhen_any _ HO3.out.c pk HWP.out).mono ?_
          rintro e w5 ⟨x5, b5, rfl, rfl, h5⟩
          have H5 := Lib.hid h5
          clear h5
          go_wp2_with fail
          refine (cdrop_any _ HO3.out.c pk HWP.out).mono ?_
          rintro e w5 ⟨b6, l5, rfl, hC5, hK5, h6⟩
          have hbb : b6 = b5 := by
            rcases H5.out with ⟨rfl, h1⟩ | ⟨rfl, -, h1⟩ <;> rcases h6 with ⟨rfl, t6, h2⟩ | ⟨rfl, -, h2⟩
            · rfl
            · exact absurd (idIn_iff.2 ⟨_, h1, rfl⟩) h2
            · exact absurd (idIn_iff.2 ⟨_, h2.mem_iff.2 (List.mem_cons_self ..), rfl⟩) h1
            · rfl
          have hsub : (∀ e ∈ l5, e ∈ l3) ∧ l5.length ≤ l3.length ∧ ¬ IdIn l5 (pk : Int) := by
            rcases h6 with ⟨-, t6, h2⟩ | ⟨-, rfl, h2⟩
            · exact ⟨fun e he => h2.mem_iff.2 (List.mem_cons_of_mem _ he), by have := h2.length_eq; simp at this; omega, drop_apart HO3.out.c.once h2⟩
            · exact ⟨fun e he => he, Nat.le_refl _, h2⟩
          subst hbb
          have HO5 := Lib.hid (HO3.out.keepF (i' := k + 1) (rest' := []) hC5 (fun b hb => Or.inl hb) hK5 (fun e he => HO3.out.small e (hsub.1 e he)) (by have := HO3.out.len; have := hsub.2.1; omega) (fun j hj => by
            rcases hj with hj | hj | hj
            · exact Or.inl hj
            · exact Or.inr (Or.inl (idIn_sub hsub.1 hj))
            · cases hj))
          have HNI := Lib.hid hsub.2.2
          clear hC5 hK5 h6 hsub
          have hbn : (b6 != b6) = false := by cases b6 <;> rfl
          have HO6F : Hid (∀ w6 : World, w6.ownsMap Try.prog 3 (plainElem Try.prog 3) (w1.heap.size + 1) (gn + 1) (G.put (.int .i64 (pk : Int)) (.lit (.int .i64 1))) → w5.grownBy w6 (some (w1.heap.size + 1)) → Onw w w6 w1.heap.size (w1.heap.size + 1) F3 now l5 (G.put (.int .i64 (pk : Int)) (.lit (.int .i64 1))) (gn + 1) (k + 1) []) := Lib.hid fun w6 ho hg =>
            HO5.out.note (i' := k + 1) (rest' := []) (pk : Int) _ ho hg HO5.out.small HO5.out.len (fun j hj => ⟨hj, by
              rcases hj with hj | hj | hj
              · omega
              · intro e; subst e; exact HNI.out hj
              · cases hj⟩)
          by_cases h3 : k % 3 = 2
          · have h3i : (k : Int) % 3 = 2 := by omega
            have h3j : ((k : Int) % 3 == 2) = true := by rw [beq_iff_eq]; exact h3i
            have h3t : (k : Int).tmod 3 = 2 := by rw [Int.tmod_eq_emod_of_nonneg (by omega)]; exact h3i
            go_wp2_with (at_mapUpdate; refine wpList_mapUpdate_own _ rfl _ _ _ 26 rfl 3 3 keyedI Try.underlying26 _ (w1.heap.size + 1) gn G rfl HO5.out.g (by unfold maxLen; omega) _ _ _ rfl rfl (keyOf_int_mk Try.underlying3 HWP.out) _ [] (plainElem_int Try.underlying3 (by decide)) ?_; intro w6 hown6 hgrow6; have HO6 := Lib.hid (HO6F.out w6 hown6 hgrow6); clear hown6 hgrow6)
            refine (cdue_any _ HO6.out.c).mono ?_
            rintro e w6 ⟨vd, ids, mt, l6, rfl, hO6, hC6, hK6, hR6⟩
            obtain ⟨hOn, hnm, hil, hids, hsrt⟩ := HO6.out.due hC6 hK6 hR6
            have HON := Lib.hid hOn
            have HIDS := Lib.hid hids
            have HSRT := Lib.hid hsrt
            have HI6 := Lib.hid hO6.ints
            have HOFF : Hid (Off vd (fun b => b = w1.heap.size + 1)) := Lib.hid (fun b hb e => by have := hO6.le b hb; have := HO6.out.g.lt; omega)
            obtain ⟨ad, cd, hvd⟩ := hO6.slice
            subst hvd
            have hnm' : ¬ mt < now := by omega
            clear hO6 hC6 hK6 hR6 hOn hids hsrt
            go_wp2_with fail
            go_loopw [13] (fun iv wq => ∃ (p : Nat) (G7 : DataW Unit) (g7 : Nat), p ≤ ids.length ∧ iv = .int .i64 p ∧ g7 ≤ (gn + 1) + p ∧ Onw w wq w1.heap.size (w1.heap.size + 1) _ mt l6 G7 g7 (k + 1) (ids.drop p) ∧ IntsAt wq (.slice ad ids.length cd) ids) (fun iv _ => ids.length - (intOf iv).toNat)
            case atStart => exact ⟨0, _, _, Nat.zero_le _, rfl, Nat.le_refl _, HON.out, HI6.out⟩
            case round =>
              obtain ⟨p, G7, g7, hp, rfl, hg7, hOn7, hI7⟩ := hrel
              clear HON HI6
              have HON := Lib.hid hOn7
              have HI6 := Lib.hid hI7
              clear hOn7
              by_cases hpl : p < ids.length
              · obtain ⟨ao7, n7, cap7, hv7, hn7, -, -, hx7⟩ := hI7
                cases hv7
                obtain ⟨gg, oo, rfl, -, hcell⟩ := hx7 (by omega)
                have hc7 := hcell p hpl
                have hpi : (0 : Int) ≤ (p : Int) ∧ (p : Int) < (ids.length : Int) := by omega
                have hmem : ids.getD p 0 ∈ ids := by rw [List.getD_eq_getElem?_getD, List.getElem?_eq_getElem hpl]; exact List.getElem_mem hpl
                have HDR : Hid (ids.drop p = ids.getD p 0 :: ids.drop (p + 1)) := Lib.hid (by rw [List.drop_eq_getElem_cons hpl, List.getD_eq_getElem?_getD, List.getElem?_eq_getElem hpl]; rfl)
                have HMEM := Lib.hid hmem
                have HSL : Hid (∀ y ∈ ids.drop (p + 1), ids.getD p 0 < y) := Lib.hid (by
                  have := HSRT.out.drop (i := p)
                  rw [HDR.out, List.pairwise_cons] at this
                  exact this.1)
                clear hcell hx7 hn7 hmem
                generalize ids.getD p 0 = y at *
                have HZ : Hid (∀ c : Int, G7.atKey (.int .i64 y) (.lit (.int .i64 0)) = .lit (.int .i64 c) → c = 0) := Lib.hid fun c hat => by
                  have hz := HON.out.zero y (Or.inr (Or.inr (by rw [HDR.out]; exact List.mem_cons_self ..)))
                  unfold Zero at hz
                  rw [hz] at hat
                  injection hat with hat
                  injection hat with _ hat
                  exact hat.symm
                have HY : Hid (y < ((k + 1 : Nat) : Int)) := Lib.hid (HIDS.out y HMEM.out).1
                have HWY : Hid ((Lit.int .i64 y).wf = true) := Lib.hid (by
                  have h1 := HY.out
                  have h2 := (HIDS.out y HMEM.out).2.2
                  exact wf_small y (by omega) (by omega))
                go_wp2_with (first
                  | (at_lookup; refine wpList_lookup_own_int _ rfl _ _ 26 rfl 3 3 .i64 keyedI Try.underlying26 Try.underlying3 (zero_int _) (w1.heap.size + 1) g7 G7 rfl HON.out.g _ _ rfl (keyOf_int_mk Try.underlying3 HWY.out) ?_; intro c hat hwc; obtain rfl := HZ.out c hat; clear hat hwc)
                  | (at_mapUpdate; refine wpList_mapUpdate_own _ rfl _ _ _ 26 rfl 3 3 keyedI Try.underlying26 _ (w1.heap.size + 1) g7 G7 rfl HON.out.g (by unfold maxLen; omega) _ _ _ rfl rfl (keyOf_int_mk Try.underlying3 HWY.out) _ [] (plainElem_int Try.underlying3 (by decide)) ?_; intro w7 hown7 hgrow7))
                have HON7 := Lib.hid (HON.out.note (i' := k + 1) (rest' := ids.drop (p + 1)) y _ hown7 hgrow7 HON.out.small HON.out.len (fun j hj => by
                  refine ⟨?_, ?_⟩
                  · rcases hj with hj | hj | hj
                    · exact Or.inl hj
                    · exact Or.inr (Or.inl hj)
                    · exact Or.inr (Or.inr (by rw [HDR.out]; exact List.mem_cons_of_mem _ hj))
                  · rcases hj with hj | hj | hj
                    · have := HY.out; omega
                    · intro e; subst e; exact (HIDS.out _ HMEM.out).2.1 hj
                    · have := HSL.out j hj; omega))
                have HI7 : Hid (IntsAt w7 (.slice (some ⟨gg, oo, none⟩) ids.length cd) ids) := Lib.hid (HI6.out.keeps (Keeps.of_grownBy hgrow7 fun b _ e => by cases e; rfl) HOFF.out)
                clear hown7 hgrow7
                go_roundw
                case rel => exact ⟨p + 1, _, _, by omega, by go_num, by omega, HON7.out, HI7.out⟩
                case measure => simp [intOf]; omega
              · obtain rfl : p = ids.length := by omega
                rw [List.drop_length] at HON
                go_wp2_with fail
                refine (cnext_any _ HON.out.c).mono ?_
                rintro e w8 ⟨x8, b8, rfl, rfl, h8⟩
                rcases h8 with ⟨rfl, -, -, hx8, -, -⟩ | ⟨rfl, rfl, -⟩
                · have hx8' : ¬ x8 < mt := by omega
                  go_wp2_with fail
                  refine (cnow_any _ HON.out.c).mono ?_
                  rintro e w9 ⟨rfl, rfl⟩
                  go_wp2_with fail
                  refine (cnow_any _ HON.out.c).mono ?_
                  rintro e w9 ⟨rfl, rfl⟩
                  go_wp2_with fail
                  refine (cnow_any _ HON.out.c).mono ?_
                  rintro e w9 ⟨rfl, rfl⟩
                  go_wp2_with fail
                  go_roundw
                  case rel => exact ⟨k + 1, _, mt, _, _, _, by omega, by go_num, rfl, by omega, HON.out⟩
                  case measure => simp [intOf]; omega
                · go_wp2_with fail
                  refine (cnow_any _ HON.out.c).mono ?_
                  rintro e w9 ⟨rfl, rfl⟩
                  go_wp2_with fail
                  refine (cnow_any _ HON.out.c).mono ?_
                  rintro e w9 ⟨rfl, rfl⟩
                  go_wp2_with fail
                  go_roundw
                  case rel => exact ⟨k + 1, _, mt, _, _, _, by omega, by go_num, rfl, by omega, HON.out⟩
                  case measure => simp [intOf]; omega
          · have h3i : ¬ (k : Int) % 3 = 2 := by omega
            have h3j : ((k : Int) % 3 == 2) = false := by rw [beq_eq_false_iff_ne]; exact h3i
            have h3t : ¬ (k : Int).tmod 3 = 2 := by rw [Int.tmod_eq_emod_of_nonneg (by omega)]; exact h3i
            obtain ⟨mt, hmt⟩ : ∃ mt, mt = now := ⟨_, rfl⟩
            subst hmt
            go_wp2_with (at_mapUpdate; refine wpList_mapUpdate_own _ rfl _ _ _ 26 rfl 3 3 keyedI Try.underlying26 _ (w1.heap.size + 1) gn G rfl HO5.out.g (by unfold maxLen; omega) _ _ _ rfl rfl (keyOf_int_mk Try.underlying3 HWP.out) _ [] (plainElem_int Try.underlying3 (by decide)) ?_; intro w6 hown6 hgrow6; have HO6 := Lib.hid (HO6F.out w6 hown6 hgrow6); clear hown6 hgrow6)
            refine (cnext_any _ HO6.out.c).mono ?_
            rintro e w8 ⟨x8, b8, rfl, rfl, h8⟩
            rcases h8 with ⟨rfl, -, -, hx8, -, -⟩ | ⟨rfl, rfl, -⟩
            · have hx8' : ¬ x8 < mt := by omega
              go_wp2_with fail
              refine (cnow_any _ HO6.out.c).mono ?_
              rintro e w9 ⟨rfl, rfl⟩
              go_wp2_with fail
              refine (cnow_any _ HO6.out.c).mono ?_
              rintro e w9 ⟨rfl, rfl⟩
              go_wp2_with fail
              refine (cnow_any _ HO6.out.c).mono ?_
              rintro e w9 ⟨rfl, rfl⟩
              go_wp2_with fail
              go_roundw
              case rel => exact ⟨k + 1, _, mt, _, _, _, by omega, by go_num, rfl, by omega, HO6.out⟩
              case measure => simp [intOf]; omega
            · go_wp2_with fail
              refine (cnow_any _ HO6.out.c).mono ?_
              rintro e w9 ⟨rfl, rfl⟩
              go_wp2_with fail
              refine (cnow_any _ HO6.out.c).mono ?_
              rintro e w9 ⟨rfl, rfl⟩
              go_wp2_with fail
              go_roundw
              case rel => exact ⟨k + 1, _, mt, _, _, _, by omega, by go_num, rfl, by omega, HO6.out⟩
              case measure => simp [intOf]; omega
        · have hkmi : ¬ (k : Int) < (m : Int) := by omega
          go_wp2_with fail
          refine (cset_any _ HO.out.c x k HWK.out hln).mono ?_
          rintro e w3 ⟨r3, F3, l3, rfl, hC3, hG3, hK3, hR3⟩
          have HO3 := Lib.hid (HO.out.set hC3 hG3 hK3 hR3)
          clear hC3 hG3 hK3 hR3
          by_cases h3 : k % 3 = 2
          · have h3i : (k : Int) % 3 = 2 := by omega
            have h3j : ((k : Int) % 3 == 2) = true := by rw [beq_iff_eq]; exact h3i
            have h3t : (k : Int).tmod 3 = 2 := by rw [Int.tmod_eq_emod_of_nonneg (by omega)]; exact h3i
            go_wp2_with fail
            refine (cdue_any _ HO3.out.c).mono ?_
            rintro e w6 ⟨vd, ids, mt, l6, rfl, hO6, hC6, hK6, hR6⟩
            obtain ⟨hOn, hnm, hil, hids, hsrt⟩ := HO3.out.due hC6 hK6 hR6
            have HON := Lib.hid hOn
            have HIDS := Lib.hid hids
            have HSRT := Lib.hid hsrt
            have HI6 := Lib.hid hO6.ints
            have HOFF : Hid (Off vd (fun b => b = w1.heap.size + 1)) := Lib.hid (fun b hb e => by have := hO6.le b hb; have := HO3.out.g.lt; omega)
            obtain ⟨ad, cd, hvd⟩ := hO6.slice
            subst hvd
            have hnm' : ¬ mt < now := by omega
            clear hO6 hC6 hK6 hR6 hOn hids hsrt
            go_wp2_with fail
            go_loopw [13] (fun iv wq => ∃ (p : Nat) (G7 : DataW Unit) (g7 : Nat), p ≤ ids.length ∧ iv = .int .i64 p ∧ g7 ≤ gn + p ∧ Onw w wq w1.heap.size (w1.heap.size + 1) _ mt l6 G7 g7 (k + 1) (ids.drop p) ∧ IntsAt wq (.slice ad ids.length cd) ids) (fun iv _ => ids.length - (intOf iv).toNat)
            case atStart => exact ⟨0, _, _, Nat.zero_le _, rfl, Nat.le_refl _, HON.out, HI6.out⟩
            case round =>
              obtain ⟨p, G7, g7, hp, rfl, hg7, hOn7, hI7⟩ := hrel
              clear HON HI6
              have HON := Lib.hid hOn7
              have HI6 := Lib.hid hI7
              clear hOn7
              by_cases hpl : p < ids.length
              · obtain ⟨ao7, n7, cap7, hv7, hn7, -, -, hx7⟩ := hI7
                cases hv7
                obtain ⟨gg, oo, rfl, -, hcell⟩ := hx7 (by omega)
                have hc7 := hcell p hpl
                have hpi : (0 : Int) ≤ (p : Int) ∧ (p : Int) < (ids.length : Int) := by omega
                have hmem : ids.getD p 0 ∈ ids := by rw [List.getD_eq_getElem?_getD, List.getElem?_eq_getElem hpl]; exact List.getElem_mem hpl
                have HDR : Hid (ids.drop p = ids.getD p 0 :: ids.drop (p + 1)) := Lib.hid (by rw [List.drop_eq_getElem_cons hpl, List.getD_eq_getElem?_getD, List.getElem?_eq_getElem hpl]; rfl)
                have HMEM := Lib.hid hmem
                have HSL : Hid (∀ y ∈ ids.drop (p + 1), ids.getD p 0 < y) := Lib.hid (by
                  have := HSRT.out.drop (i := p)
                  rw [HDR.out, List.pairwise_cons] at this
                  exact this.1)
                clear hcell hx7 hn7 hmem
                generalize ids.getD p 0 = y at *
                have HZ : Hid (∀ c : Int, G7.atKey (.int .i64 y) (.lit (.int .i64 0)) = .lit (.int .i64 c) → c = 0) := Lib.hid fun c hat => by
                  have hz := HON.out.zero y (Or.inr (Or.inr (by rw [HDR.out]; exact List.mem_cons_self ..)))
                  unfold Zero at hz
                  rw [hz] at hat
                  injection hat with hat
                  injection hat with _ hat
                  exact hat.symm
                have HY : Hid (y < ((k + 1 : Nat) : Int)) := Lib.hid (HIDS.out y HMEM.out).1
                have HWY : Hid ((Lit.int .i64 y).wf = true) := Lib.hid (by
                  have h1 := HY.out
                  have h2 := (HIDS.out y HMEM.out).2.2
                  exact wf_small y (by omega) (by omega))
                go_wp2_with (first
                  | (at_lookup; refine wpList_lookup_own_int _ rfl _ _ 26 rfl 3 3 .i64 keyedI Try.underlying26 Try.underlying3 (zero_int _) (w1.heap.size + 1) g7 G7 rfl HON.out.g _ _ rfl (keyOf_int_mk Try.underlying3 HWY.out) ?_; intro c hat hwc; obtain rfl := HZ.out c hat; clear hat hwc)
                  | (at_mapUpdate; refine wpList_mapUpdate_own _ rfl _ _ _ 26 rfl 3 3 keyedI Try.underlying26 _ (w1.heap.size + 1) g7 G7 rfl HON.out.g (by unfold maxLen; omega) _ _ _ rfl rfl (keyOf_int_mk Try.underlying3 HWY.out) _ [] (plainElem_int Try.underlying3 (by decide)) ?_; intro w7 hown7 hgrow7))
                have HON7 := Lib.hid (HON.out.note (i' := k + 1) (rest' := ids.drop (p + 1)) y _ hown7 hgrow7 HON.out.small HON.out.len (fun j hj => by
                  refine ⟨?_, ?_⟩
                  · rcases hj with hj | hj | hj
                    · exact Or.inl hj
                    · exact Or.inr (Or.inl hj)
                    · exact Or.inr (Or.inr (by rw [HDR.out]; exact List.mem_cons_of_mem _ hj))
                  · rcases hj with hj | hj | hj
                    · have := HY.out; omega
                    · intro e; subst e; exact (HIDS.out _ HMEM.out).2.1 hj
                    · have := HSL.out j hj; omega))
                have HI7 : Hid (IntsAt w7 (.slice (some ⟨gg, oo, none⟩) ids.length cd) ids) := Lib.hid (HI6.out.keeps (Keeps.of_grownBy hgrow7 fun b _ e => by cases e; rfl) HOFF.out)
                clear hown7 hgrow7
                go_roundw
                case rel => exact ⟨p + 1, _, _, by omega, by go_num, by omega, HON7.out, HI7.out⟩
                case measure => simp [intOf]; omega
              · obtain rfl : p = ids.length := by omega
                rw [List.drop_length] at HON
                go_wp2_with fail
                refine (cnext_any _ HON.out.c).mono ?_
                rintro e w8 ⟨x8, b8, rfl, rfl, h8⟩
                rcases h8 with ⟨rfl, -, -, hx8, -, -⟩ | ⟨rfl, rfl, -⟩
                · have hx8' : ¬ x8 < mt := by omega
                  go_wp2_with fail
                  refine (cnow_any _ HON.out.c).mono ?_
                  rintro e w9 ⟨rfl, rfl⟩
                  go_wp2_with fail
                  refine (cnow_any _ HON.out.c).mono ?_
                  rintro e w9 ⟨rfl, rfl⟩
                  go_wp2_with fail
                  refine (cnow_any _ HON.out.c).mono ?_
                  rintro e w9 ⟨rfl, rfl⟩
                  go_wp2_with fail
                  go_roundw
                  case rel => exact ⟨k + 1, _, mt, _, _, _, by omega, by go_num, rfl, by omega, HON.out⟩
                  case measure => simp [intOf]; omega
                · go_wp2_with fail
                  refine (cnow_any _ HON.out.c).mono ?_
                  rintro e w9 ⟨rfl, rfl⟩
                  go_wp2_with fail
                  refine (cnow_any _ HON.out.c).mono ?_
                  rintro e w9 ⟨rfl, rfl⟩
                  go_wp2_with fail
                  go_roundw
                  case rel => exact ⟨k + 1, _, mt, _, _, _, by omega, by go_num, rfl, by omega, HON.out⟩
                  case measure => simp [intOf]; omega
          · have h3i : ¬ (k : Int) % 3 = 2 := by omega
            have h3j : ((k : Int) % 3 == 2) = false := by rw [beq_eq_false_iff_ne]; exact h3i
            have h3t : ¬ (k : Int).tmod 3 = 2 := by rw [Int.tmod_eq_emod_of_nonneg (by omega)]; exact h3i
            obtain ⟨mt, hmt⟩ : ∃ mt, mt = now := ⟨_, rfl⟩
            subst hmt
            go_wp2_with fail
            refine (cnext_any _ HO3.out.c).mono ?_
            rintro e w8 ⟨x8, b8, rfl, rfl, h8⟩
            rcases h8 with ⟨rfl, -, -, hx8, -, -⟩ | ⟨rfl, rfl, -⟩
            · have hx8' : ¬ x8 < mt := by omega
              go_wp2_with fail
              refine (cnow_any _ HO3.out.c).mono ?_
              rintro e w9 ⟨rfl, rfl⟩
              go_wp2_with fail
              refine (cnow_any _ HO3.out.c).mono ?_
              rintro e w9 ⟨rfl, rfl⟩
              go_wp2_with fail
              refine (cnow_any _ HO3.out.c).mono ?_
              rintro e w9 ⟨rfl, rfl⟩
              go_wp2_with fail
              go_roundw
              case rel => exact ⟨k + 1, _, mt, _, _, _, by omega, by go_num, rfl, by omega, HO3.out⟩
              case measure => simp [intOf]; omega
            · go_wp2_with fail
              refine (cnow_any _ HO3.out.c).mono ?_
              rintro e w9 ⟨rfl, rfl⟩
              go_wp2_with fail
              refine (cnow_any _ HO3.out.c).mono ?_
              rintro e w9 ⟨rfl, rfl⟩
              go_wp2_with fail
              go_roundw
              case rel => exact ⟨k + 1, _, mt, _, _, _, by omega, by go_num, rfl, by omega, HO3.out⟩
              case measure => simp [intOf]; omega
      · obtain rfl : k = n := by omega
        go_wp2_with fail
        go_ret
        exact ⟨rfl, HO.out.below⟩
end Go.Proofs.Ytnhlabbempaidaa
