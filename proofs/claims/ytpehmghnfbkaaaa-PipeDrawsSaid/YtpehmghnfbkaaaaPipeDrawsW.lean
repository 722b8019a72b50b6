/-
  The walk of the law PipeDraws: of several channels that have a number each one is taken, by the draw, round and round; and all of them in the end.
-/
import Derived.Test.YtpehmghnfbkaaaaPipeL2
import Derived.Test.YtpehmghnfbkaaaaPipeDM
import Derived.Maps.OwnOps
import Derived.Deep.Cut
namespace Go.Proofs.Ytpehmghnfbkaaaa
open Go.RowKit Go.Maps Pp

/-- The channels made so far, and the row of talks. -/
structure DrJ (w0 wr : World) (pb : Nat) (lv : Value) (i : Nat) : Prop where
  live : ∃ ρ, Live w0 wr ρ pb i (drawS i []) ∧ ∀ g, lv.ownBlock = some g → ρ g = .free
  own : OwnT wr w0.heap.size lv ((List.range i).map recvT)
/-- Behind so many receives: those that were taken, the newest one first. -/
structure Dr2 (w0 wr : World) (pb : Nat) (lv : Value) (n mb : Nat) (draw : Int) (T : List Nat) (av : Value) : Prop where
  live : ∃ ρ, Live w0 wr ρ pb (n + T.length) (drawS n T) ∧ (∀ g, lv.ownBlock = some g → ρ g = .free) ∧ ρ mb = .free
  own : OwnT wr w0.heap.size lv ((List.range n).map recvT)
  map : ∃ D : DataW Unit, wr.ownsMap Try.prog 3 (plainElem Try.prog 3) mb T.length D ∧ ∀ j : Nat, D.atKey (.int .i64 (j : Int)) (.lit (.int .i64 0)) = .lit (.int .i64 (if j ∈ T then 1 else 0))
  nod : T.Nodup
  sub : ∀ j ∈ T, j < n
  hmb : w0.heap.size ≤ mb
  off : ∀ g, lv.ownBlock = some g → g ≠ mb
  fst : (T = [] ∧ av = .int .i64 (-1)) ∨ ∃ T', T = T' ++ [drawn draw n] ∧ av = .int .i64 (drawn draw n : Nat)
theorem Dr2.av {w0 wr : World} {pb : Nat} {lv : Value} {n mb : Nat} {draw : Int} {T : List Nat} {av : Value} (h : Dr2 w0 wr pb lv n mb draw T av) : ∃ a : Int, av = .int .i64 a := by
  rcases h.fst with ⟨_, e⟩ | ⟨_, _, e⟩
  · exact ⟨_, e⟩
  · exact ⟨_, e⟩
theorem zero_intP (w : World) : (zeroValue 3).run Try.prog w = .ok (.int .i64 0) w := by
  have h := Try.zeroValue3
  simp [h]
theorem drawn_lt (draw : Int) {n : Nat} (h : 0 < n) : drawn draw n < n := by
  unfold drawn
  have h8 : draw % (n : Int) < (n : Int) := Int.emod_lt_of_pos _ (by omega)
  have h9 : 0 ≤ draw % (n : Int) := Int.emod_nonneg _ (by omega)
  omega
set_option maxRecDepth 100000 in
set_option maxHeartbeats 6400000 in
theorem pipeDraws_any (n draw : Int) (w : World) (_ : -9223372036854775808 ≤ n) (_ : n ≤ 9223372036854775807) (hd1 : -9223372036854775808 ≤ draw) (hd2 : draw ≤ 9223372036854775807) :
    Calls Try.prog 7 #[.int .i64 n, .int .i64 draw] w fun e w' => e = .returned (.bool true) ∧ Below w.heap.size w w' := by
  have HD : Hid (-9223372036854775808 ≤ draw ∧ draw ≤ 9223372036854775807) := Lib.hid ⟨hd1, hd2⟩
  clear hd1 hd2
  go_enter Try.func7, Try.ntmps7
  go_wp2_with fail
  refine (piped_any w).mono ?_
  rintro e w1 ⟨rfl, hb1⟩
  have HB1 := Lib.hid hb1
  clear hb1
  go_wp2_with fail
  refine (pick_any n 6 _ (by decide) (by decide)).mono ?_
  rintro e w2 ⟨r, hr, rfl, rfl⟩
  obtain ⟨m, hm⟩ : ∃ m : Nat, m = r + 1 := ⟨_, rfl⟩
  have HM : Hid (m = r + 1) := Lib.hid hm
  have hm6 : m ≤ 6 := by omega
  have hm0 : 0 < m := by omega
  have hmi : (1 : Int) + (r : Int) = (m : Int) := by omega
  obtain ⟨ρ0, hl0⟩ := live_zero HB1.out 28
  have HJ0 : Hid (DrJ w (w1.alloc (.cells #[.slice none 0 0, .map none] 28)) w1.heap.size (.slice none 0 0) 0) := Lib.hid ⟨⟨ρ0, hl0, fun g hg => by cases hg⟩, World.ownsRow_nil _ _ _ _⟩
  clear hl0 hm
  go_wp2_with fail
  obtain ⟨pb, hpb⟩ : ∃ pb, pb = w1.heap.size := ⟨_, rfl⟩
  rw [← hpb]
  rw [← hpb] at HJ0
  clear hpb hr
  go_loopw [6, 7] (fun lv iv wr => ∃ i : Nat, i ≤ m ∧ iv = .int .i64 i ∧ DrJ w wr pb lv i) (fun _ iv _ => m - (intOf iv).toNat)
  case atStart => exact ⟨0, Nat.zero_le _, rfl, HJ0.out⟩
  case round =>
    obtain ⟨i, hi, rfl, hJ⟩ := hrel
    obtain ⟨al, cl, hlv⟩ := hJ.own.slice
    have hll : ((List.range i).map recvT).length = i := by simp
    rw [hll] at hlv
    subst hlv
    obtain ⟨ρ, hlive, hfree⟩ := hJ.live
    have HLV := Lib.hid hlive
    have HFR := Lib.hid hfree
    have HOW := Lib.hid hJ.own
    clear hJ HJ0 hll hlive hfree
    by_cases him : i < m
    · clear hi
      go_wp2_with fail
      refine (live_make HLV.out 1 (by decide) (by rw [drawS_len]; omega)).mono ?_
      rintro e w3 ⟨rfl, ⟨ρ3, h3, hx3⟩, hk3⟩
      rw [show (((drawS i []).chs.length : Nat) : Int) + 1 = (i : Int) + 1 by rw [drawS_len]]
      have H3 := Lib.hid h3
      have HOFF : Hid (∀ g, Value.ownBlock (.slice al i cl) = some g → g < wr.heap.size) := Lib.hid fun g hg => (World.ownsRow.lt HOW.out g hg).2
      have HFR3 : Hid (∀ g, Value.ownBlock (.slice al i cl) = some g → ρ3 g = .free) := Lib.hid fun g hg => by rw [hx3 g (HOFF.out g hg)]; exact HFR.out g hg
      have HOW3 : Hid (OwnT w3 w.heap.size (.slice al i cl) ((List.range i).map recvT)) := Lib.hid (hk3.row HOW.out fun g hg e => e (HFR.out g hg))
      clear h3 hx3 hk3
      go_wp2_with fail
      refine (rsend_any w3 _ _).mono ?_
      rintro e w4 ⟨rfl, rfl⟩
      have H4 := Lib.hid (H3.out.new (alloc_new w3 (.cells #[.int .i64 3, .int .i64 ((i : Int) + 1), .int .i64 (10 + (i : Int))] 61)))
      have HF4 : Hid (ρ3 w3.heap.size = .free) := Lib.hid (H3.out.free (Or.inl (Nat.le_refl _)))
      have HOFF3 : Hid (∀ g, Value.ownBlock (.slice al i cl) = some g → g < w3.heap.size) := Lib.hid fun g hg => (World.ownsRow.lt HOW3.out g hg).2
      have HOW4 := Lib.hid (World.ownsRow.alloc HOW3.out (.cells #[.int .i64 3, .int .i64 ((i : Int) + 1), .int .i64 (10 + (i : Int))] 61))
      go_wp2_with fail
      refine (live_talk H4.out (by omega) i (wf_small _ (by omega)) (talk_one w3 ⟨3, (i : Int) + 1, 10 + (i : Int)⟩ _ rfl) (fun g hg => by cases hg; exact HF4.out) 0 (by decide) (talk_put i i) (er := .nilIface) rfl).mono ?_
      rintro e w5 ⟨vw, rfl, ⟨ρ5, h5, hx5, -⟩, hw5, hk5⟩
      have H5 := Lib.hid h5
      have HOW5 : Hid (OwnT w5 w.heap.size (.slice al i cl) ((List.range i).map recvT)) := Lib.hid (hk5.row HOW4.out fun g hg e => e (HFR3.out g hg))
      have HFR5 : Hid (∀ g, Value.ownBlock (.slice al i cl) = some g → ρ5 g = .free) := Lib.hid fun g hg => by
        rw [hx5 g (by have := HOFF3.out g hg; simp; omega)]; exact HFR3.out g hg
      clear h5 hx5 hw5 hk5
      go_wp2_with fail
      have H6 := Lib.hid (H5.out.new (alloc_new w5 (.cells #[.int .i64 0, .int .i64 0] 40)))
      have HOW6 := Lib.hid (World.ownsRow.alloc HOW5.out (.cells #[.int .i64 0, .int .i64 0] 40))
      clear H5 HOW5
      generalize w5.alloc (.cells #[.int .i64 0, .int .i64 0] 40) = w6 at *
      refine (rrecv_any w6 _).mono ?_
      rintro e w7 ⟨rfl, rfl⟩
      have q0 : (w6.alloc (.cells #[.int .i64 10, .int .i64 ((i : Int) + 1), .int .i64 0] 61)).cell? ⟨w6.heap.size, 0, none⟩ = some (.int .i64 10) := by rw [World.cell?_alloc_at _ _ _ _ rfl]; rfl
      have q1 : (w6.alloc (.cells #[.int .i64 10, .int .i64 ((i : Int) + 1), .int .i64 0] 61)).cell? ⟨w6.heap.size, 1, none⟩ = some (.int .i64 ((i : Int) + 1)) := by rw [World.cell?_alloc_at _ _ _ _ rfl]; rfl
      have q2 : (w6.alloc (.cells #[.int .i64 10, .int .i64 ((i : Int) + 1), .int .i64 0] 61)).cell? ⟨w6.heap.size, 2, none⟩ = some (.int .i64 0) := by rw [World.cell?_alloc_at _ _ _ _ rfl]; rfl
      have HOW7 := Lib.hid (World.ownsRow.alloc HOW6.out (.cells #[.int .i64 10, .int .i64 ((i : Int) + 1), .int .i64 0] 61))
      have H7 := Lib.hid (H6.out.new (alloc_new w6 (.cells #[.int .i64 10, .int .i64 ((i : Int) + 1), .int .i64 0] 61)))
      have hll : ((List.range i).map recvT).length = i := by simp
      have HLL := Lib.hid hll
      have hBB : w.heap.size ≤ (w6.alloc (.cells #[.int .i64 10, .int .i64 ((i : Int) + 1), .int .i64 0] 61)).heap.size := H7.out.below.size
      have HBB := Lib.hid hBB
      clear hll hBB
      go_wp2_with (at_builtin; go_loud (refine wpList_appendT rfl _ _ rfl (w6.alloc (.cells #[.int .i64 10, .int .i64 ((i : Int) + 1), .int .i64 0] 61)) w.heap.size _ _ (recvT i) HOW7.out rfl (by simp) rfl (by rw [HLL.out]; omega) HBB.out ?_; intro a8 c8 w8 hO8 hK8 hN8; have HO8 := Lib.hid hO8; have HK8 := Lib.hid hK8; have HN8 := Lib.hid hN8; clear hO8 hK8 hN8))
      go_roundw
      case rel =>
        refine ⟨i + 1, by omega, by go_num, ⟨⟨ρ5, H7.out.keeps HK8.out fun g hg e => ⟨HFR5.out g e, (World.ownsRow.lt HOW7.out g e).1⟩, fun g hg => ?_⟩, ?_⟩⟩
        · have hn8 := HN8.out
          rw [HLL.out] at hn8
          rcases hn8 g hg with h1 | h1
          · exact HFR5.out g h1
          · exact H7.out.free (Or.inl h1)
        · have := HO8.out
          rw [HLL.out] at this
          rw [List.range_succ, List.map_append]
          exact this
      case measure => simp [intOf]; omega
    · obtain rfl : i = m := by omega
      have hmm := @run_makeMap Try.prog
      have hmk : Keeps (fun _ => False) wr (wr.alloc (.map #[] 0)) := alloc_new _ _
      have HJ1 : Hid (Dr2 w (wr.alloc (.map #[] 0)) pb (.slice al i cl) i wr.heap.size draw [] (.int .i64 (-1))) := Lib.hid ⟨⟨ρ, HLV.out.new hmk, HFR.out, HLV.out.free (Or.inl (Nat.le_refl _))⟩, hmk.row HOW.out fun _ _ e => e,
        ⟨.map [], World.ownsMap_made wr Try.prog 3 (plainElem Try.prog 3), fun j => rfl⟩, List.nodup_nil, (fun j hj => by cases hj), HLV.out.below.size, (fun g hg => by have := (World.ownsRow.lt HOW.out g hg).2; omega), Or.inl ⟨rfl, rfl⟩⟩
      clear HLV HFR HOW hmk him
      go_wp2_with fail
      clear hmm
      obtain ⟨mb, hmb⟩ : ∃ mb, mb = wr.heap.size := ⟨_, rfl⟩
      rw [← hmb]
      rw [← hmb] at HJ1
      clear hmb
      go_loopw [15, 16] (fun av kv wx => ∃ T : List Nat, T.length ≤ i ∧ kv = .int .i64 (T.length : Nat) ∧ Dr2 w wx pb (.slice al i cl) i mb draw T av) (fun _ kv _ => i - (intOf kv).toNat)
      case atStart => exact ⟨[], Nat.zero_le _, rfl, HJ1.out⟩
      case round =>
        obtain ⟨T, hT, rfl, hJ⟩ := hrel
        have HJ := Lib.hid hJ
        obtain ⟨ρ2, hl2, hf2, hm2⟩ := hJ.live
        obtain ⟨D, hDo, hDa⟩ := hJ.map
        have HL2 := Lib.hid hl2
        have HF2 := Lib.hid hf2
        have HMF := Lib.hid hm2
        have HDO := Lib.hid hDo
        have HDA := Lib.hid hDa
        have hlen := leftD_len hJ.nod hJ.sub
        have HLEN := Lib.hid hlen
        obtain ⟨a, rfl⟩ := hJ.av
        clear hJ HJ1 hl2 hf2 hm2 hDo hDa
        have hn12 : i + T.length ≤ 100000 := by omega
        by_cases hki : T.length < i
        · obtain ⟨j, hj⟩ : ∃ j, (leftD i T)[drawn draw (leftD i T).length]? = some j := ⟨_, List.getElem?_eq_getElem (drawn_lt draw (by omega))⟩
          have hjm : j ∈ leftD i T := List.mem_of_getElem? hj
          have hjn : j < i ∧ j ∉ T := by unfold leftD at hjm; simpa using hjm
          have HJ0 : Hid (T = [] → j = drawn draw i) := Lib.hid fun e => by
            subst e
            have hL : leftD i [] = List.range i := List.filter_eq_self.2 fun _ _ => by simp
            rw [hL, List.length_range] at hj
            rw [List.getElem?_range (drawn_lt draw hm0)] at hj
            exact (Option.some.inj hj).symm
          have HJN := Lib.hid hjn
          have HTK := Lib.hid (talk_take (t := 50 + (T.length : Int)) hm6 hj)
          have hjlt := hjn.1
          have hlc := hlen
          clear hjm hjn hlen hj
          have HTL := Lib.hid (live_talk HL2.out hn12 (50 + (T.length : Int)) (wf_small _ (by omega)) (talks_of_own HJ.out.own) HF2.out draw HD.out HTK.out (er := .nilIface) rfl)
          go_wp2_with fail
          refine HTL.out.mono ?_
          rintro e w5 ⟨vw, rfl, ⟨ρ5, h5, hx5, -⟩, hw5, hk5⟩
          have HK5 := Lib.hid hk5
          have HL5 := Lib.hid (h5.new (alloc_new w5 (.cells #[.int .i64 (j : Int), .int .i64 (10 + (j : Int))] 40)))
          have hka := alloc_new w5 (.cells #[.int .i64 (j : Int), .int .i64 (10 + (j : Int))] 40)
          have HOW5 : Hid (OwnT (w5.alloc (.cells #[.int .i64 (j : Int), .int .i64 (10 + (j : Int))] 40)) w.heap.size (.slice al i cl) ((List.range i).map recvT)) := Lib.hid (hka.row (hk5.row HJ.out.own fun g hg e => e (HF2.out g hg)) fun _ _ e => e)
          have HDO5 : Hid ((w5.alloc (.cells #[.int .i64 (j : Int), .int .i64 (10 + (j : Int))] 40)).ownsMap Try.prog 3 (plainElem Try.prog 3) mb T.length D) := Lib.hid (hka.map (hk5.map HDO.out (fun e => e HMF.out)) id)
          have HF5 : Hid (∀ g, Value.ownBlock (.slice al i cl) = some g → ρ5 g = .free) := Lib.hid fun g hg => by rw [hx5 g (World.ownsRow.lt HJ.out.own g hg).2]; exact HF2.out g hg
          have HM5 : Hid (ρ5 mb = .free) := Lib.hid (by rw [hx5 mb HDO.out.lt]; exact HMF.out)
          have HWFJ : Hid ((Lit.int .i64 (j : Int)).wf = true) := Lib.hid (wf_small _ (by omega))
          obtain ⟨cx, hrun, hat, -⟩ := HDO5.out.lookup_int keyedP Try.underlying34 Try.underlying3 (zero_intP _) (keyOf_int_mk Try.underlying3 HWFJ.out)
          have hcx : cx = 0 := by
            rw [HDA.out j, if_neg HJN.out.2] at hat
            injection hat with h1
            injection h1 with _ h1
            exact h1.symm
          subst hcx
          have a0 : (w5.alloc (.cells #[.int .i64 (j : Int), .int .i64 (10 + (j : Int))] 40)).cell? ⟨w5.heap.size, 0, none⟩ = some (.int .i64 (j : Int)) := by rw [World.cell?_alloc_at _ _ _ _ rfl]; rfl
          have a1 : (w5.alloc (.cells #[.int .i64 (j : Int), .int .i64 (10 + (j : Int))] 40)).cell? ⟨w5.heap.size, 1, none⟩ = some (.int .i64 (10 + (j : Int))) := by rw [World.cell?_alloc_at _ _ _ _ rfl]; rfl
          have e1 : ¬ (j : Int) < 0 := by omega
          have e2 : ¬ (i : Int) ≤ (j : Int) := by omega
          have HMW : Hid (¬ w5.heap.size = mb) := Lib.hid (by have := HDO.out.lt; have := hk5.size; omega)
          clear h5 hx5 hw5 hk5 hka hat
          go_upto_region 22 with fail
          generalize w5.alloc (.cells #[.int .i64 (j : Int), .int .i64 (10 + (j : Int))] 40) = w6 at *
          have HNEXT : Hid (∀ w7, w7.ownsMap Try.prog 3 (plainElem Try.prog 3) mb (T.length + 1) (D.put (.int .i64 (j : Int)) (.lit (.int .i64 1))) → w6.grownBy w7 (some mb) → ∀ a' : Int, ((T = [] ∧ a' = (drawn draw i : Nat)) ∨ (T ≠ [] ∧ a' = a)) → Dr2 w w7 pb (.slice al i cl) i mb draw (j :: T) (.int .i64 a')) := Lib.hid fun w7 ho hg a' ha => by
            have hk : Keeps (fun g => g = mb) w6 w7 := Keeps.of_grownBy hg fun g _ e => by cases e; rfl
            refine ⟨⟨ρ5, HL5.out.keeps hk fun g _ e => by rw [e]; exact ⟨HM5.out, HJ.out.hmb⟩, HF5.out, HM5.out⟩, hk.row HOW5.out fun g hg2 e => HJ.out.off g hg2 e, ⟨_, ho, fun x => ?_⟩, List.nodup_cons.2 ⟨HJN.out.2, HJ.out.nod⟩, fun x hx => ?_, HJ.out.hmb, HJ.out.off, ?_⟩
            · by_cases e : x = j
              · subst e
                rw [Maps.atKey_put_same HDO.out.isMap (show WideAt.IsKeyLit (Lit.int .i64 (x : Int)) from trivial)]; simp
              · rw [Maps.atKey_put_other (lit_neI (by omega)), HDA.out x]
                simp [e]
            · rcases List.mem_cons.1 hx with rfl | hx
              · exact HJN.out.1
              · exact HJ.out.sub x hx
            · rcases ha with ⟨h1, h2⟩ | ⟨h1, h2⟩
              · subst h1
                exact Or.inr ⟨[], by rw [HJ0.out rfl]; rfl, by rw [h2]⟩
              · rcases HJ.out.fst with ⟨h3, _⟩ | ⟨T', h3, h4⟩
                · exact absurd h3 h1
                · exact Or.inr ⟨j :: T', by rw [h3]; rfl, by rw [h2]; exact h4⟩
          rcases Nat.eq_zero_or_pos T.length with h0 | h0
          · have hT0 : T = [] := List.eq_nil_of_length_eq_zero h0
            have hjd := HJ0.out hT0
            have HT0 := Lib.hid hT0
            have HJD := Lib.hid hjd
            have z0 : (T.length : Int) = 0 := by omega
            clear hT0 hjd
            go_wp2_with (at_mapUpdate; refine wpList_mapUpdate_own _ rfl _ _ _ 34 rfl 3 3 keyedP Try.underlying34 _ mb T.length D rfl HDO5.out (by unfold maxLen; omega) _ _ _ rfl rfl (keyOf_int_mk Try.underlying3 HWFJ.out) _ [] (plainElem_int Try.underlying3 (a := 1) (by decide)) ?_; intro w7 hown7 hgrow7; have HO7 := Lib.hid hown7; have HG7 := Lib.hid hgrow7; have b0 : w7.cell? ⟨w5.heap.size, 0, none⟩ = some (.int .i64 (j : Int)) := (Keeps.of_grownBy (S := fun g => g = mb) hgrow7 fun g _ e => by cases e; rfl).cell_of a0 (HMW.out); clear hown7 hgrow7)
            refine ⟨⟨j :: T, by rw [List.length_cons]; omega, ?_, HNEXT.out w7 HO7.out HG7.out (j : Int) (Or.inl ⟨HT0.out, by rw [HJD.out]⟩)⟩, ?_⟩
            · rw [List.length_cons, h0]; rfl
            · simp [intOf]; omega
          · have hT0 : T ≠ [] := fun e => by rw [e] at h0; exact absurd h0 (by decide)
            have HT0 := Lib.hid hT0
            have z0 : ¬ (T.length : Int) = 0 := by omega
            have z1 : ((T.length : Int) == 0) = false := by rw [beq_eq_false_iff_ne]; exact z0
            clear hT0
            go_wp2_with (at_mapUpdate; refine wpList_mapUpdate_own _ rfl _ _ _ 34 rfl 3 3 keyedP Try.underlying34 _ mb T.length D rfl HDO5.out (by unfold maxLen; omega) _ _ _ rfl rfl (keyOf_int_mk Try.underlying3 HWFJ.out) _ [] (plainElem_int Try.underlying3 (a := 1) (by decide)) ?_; intro w7 hown7 hgrow7; have HO7 := Lib.hid hown7; have HG7 := Lib.hid hgrow7; have b0 : w7.cell? ⟨w5.heap.size, 0, none⟩ = some (.int .i64 (j : Int)) := (Keeps.of_grownBy (S := fun g => g = mb) hgrow7 fun g _ e => by cases e; rfl).cell_of a0 (HMW.out); clear hown7 hgrow7)
            refine ⟨⟨j :: T, by rw [List.length_cons]; omega, ?_, HNEXT.out w7 HO7.out HG7.out a (Or.inr ⟨HT0.out, rfl⟩)⟩, ?_⟩
            · rw [List.length_cons]; go_num
            · simp [intOf]; omega
        · have hTi : T.length = i := by omega
          have hL0 : leftD i T = [] := List.eq_nil_of_length_eq_zero (by omega)
          have ha : a = draw % (i : Int) := by
            rcases HJ.out.fst with ⟨h1, _⟩ | ⟨T', _, h2⟩
            · rw [h1] at hTi; simp at hTi; omega
            · rw [Value.int.injEq] at h2
              rw [h2.2]
              unfold drawn
              exact Int.toNat_of_nonneg (Int.emod_nonneg _ (by omega))
          subst ha
          have HTL := Lib.hid (live_talk HL2.out hn12 99 (by decide) (talks_of_own HJ.out.own) HF2.out draw HD.out (talk_none (t := 99) hm6 hL0) (er := .nilIface) rfl)
          have hlt : draw % (i : Int) < i := Int.emod_lt_of_pos _ (by omega)
          have hge : 0 ≤ draw % (i : Int) := Int.emod_nonneg _ (by omega)
          have ht : draw.tmod (i : Int) = if draw < 0 ∧ draw % (i : Int) ≠ 0 then draw % (i : Int) - i else draw % (i : Int) := by
            rw [Int.tmod_eq_emod]
            split <;> split <;> simp_all [Int.dvd_iff_emod_eq_zero] <;> omega
          have e0 : ((i : Int) == 0) = false := by rw [beq_eq_false_iff_ne]; omega
          have e1 : ¬ ((i : Int) = 0) := by omega
          have hki2 : ¬ (T.length : Int) < (i : Int) := by omega
          clear hL0 hlen hTi hn12 hki hT HDA HDO HLEN HMF
          generalize hq : draw % (i : Int) = q at *
          clear hq
          by_cases hn : draw < 0 ∧ q ≠ 0
          · rw [if_pos hn] at ht
            have e2 : IntKind.i64.wrap (q - i + i) = q := by rw [IntKind.wrap_i64]; omega
            have e3 : q - i < 0 := by omega
            clear hn
            go_wp2_with fail
            refine HTL.out.mono ?_
            rintro e w5 ⟨vw, rfl, ⟨ρ5, h5, -, -⟩, -, -⟩
            have H5 := Lib.hid h5.below
            clear h5
            go_wp2_with fail
            go_ret
            exact ⟨by simp, H5.out.alloc H5.out.size _⟩
          · rw [if_neg hn] at ht
            have e3 : ¬ (q < 0) := by omega
            clear hn
            go_wp2_with fail
            refine HTL.out.mono ?_
            rintro e w5 ⟨vw, rfl, ⟨ρ5, h5, -, -⟩, -, -⟩
            have H5 := Lib.hid h5.below
            clear h5
            go_wp2_with fail
            go_ret
            exact ⟨by simp, H5.out.alloc H5.out.size _⟩
end Go.Proofs.Ytpehmghnfbkaaaa
