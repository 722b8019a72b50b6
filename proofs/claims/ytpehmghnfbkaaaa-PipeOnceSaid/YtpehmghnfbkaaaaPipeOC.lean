/-
  The walk of deals, at what PipeOnce asks behind each.
-/
import Derived.Test.YtpehmghnfbkaaaaPipeNE
import Derived.Test.YtpehmghnfbkaaaaPipeOB
import Derived.Deep.Cut
namespace Go.Proofs.Ytpehmghnfbkaaaa
open Go.RowKit Go.Maps Pp

/-- The first channels: none; nobody else's block is theirs. -/
theorem live_zeroF {w0 w : World} (hb : Below w0.heap.size w0 w) (t : TypeId) : ∃ ρ, Live w0 (w.alloc (.cells #[.slice none 0 0, .map none] t)) ρ w.heap.size 0 Pp.zero ∧ ∀ b, b ≠ w.heap.size → ρ b = .free := by
  have hs := hb.size
  refine ⟨fun b => if b = w.heap.size then .pipes else .free, ⟨⟨Ok.zero, .slice none 0 0, [], none, .map [], ?_⟩, fun b hb2 => ?_, hb.alloc hs _⟩, fun b e => if_neg e⟩
  · refine ⟨by rw [World.cell?_alloc_at _ _ _ _ rfl]; rfl, by rw [World.cell?_alloc_at _ _ _ _ rfl]; rfl, fun j => by rw [World.frozen?_alloc_at _ _ _ _ rfl], World.ownsRow_nil _ _ _ _, rfl, Nat.zero_le _, fun k cb c hcb => (by simp at hcb), fun k c hc => (by simp [Pp.zero] at hc),
      fun _ => rfl, fun b e => (by cases e), fun t => rfl, fun t l hl => (by cases hl), by simp, fun b e => (by cases e), fun b hb2 => ?_⟩
    by_cases e : b = w.heap.size
    · subst e; simp
    · simp [e] at hb2
  · by_cases e : b = w.heap.size
    · omega
    · simp [e] at hb2
/-- The law's map and its variable, beside the channels. -/
structure OnB (w0 wr : World) (ρ : Nat → Role) (xb mb K : Nat) (s : St) : Prop where
  fx : ρ xb = .free
  fm : ρ mb = .free
  box : wr.cell? ⟨xb, 0, none⟩ = some (.map (some mb))
  map : ∃ (D : DataW Unit) (k : Nat), k ≤ K ∧ wr.ownsMap Try.prog 3 (plainElem Try.prog 3) mb k D ∧ WaitM D fun x => (s.asks x).isSome
  hmb : w0.heap.size ≤ mb
theorem OnB.keeps {w0 wr w' : World} {ρ ρ' : Nat → Role} {xb mb K K' : Nat} {s s' : St} (h : OnB w0 wr ρ xb mb K s) (hk : Keeps (fun b => ρ b ≠ .free) wr w') (hx : ∀ g, g < wr.heap.size → ρ' g = ρ g) (hs : s'.asks = s.asks) (hK : K ≤ K') : OnB w0 w' ρ' xb mb K' s' := by
  obtain ⟨D, k, h1, h2, h3⟩ := h.map
  exact ⟨by rw [hx _ (block_lt_of_cell h.box)]; exact h.fx, by rw [hx _ h2.lt]; exact h.fm, hk.cell_of h.box (fun e => e h.fx), ⟨D, k, Nat.le_trans h1 hK, hk.map h2 (fun e => e h.fm), by rw [hs]; exact h3⟩, h.hmb⟩
theorem OnB.new {w0 wr w' : World} {ρ : Nat → Role} {xb mb K : Nat} {s : St} (h : OnB w0 wr ρ xb mb K s) (hk : Keeps (fun _ => False) wr w') : OnB w0 w' ρ xb mb K s := h.keeps (hk.mono fun _ _ e => e.elim) (fun _ _ => rfl) rfl (Nat.le_refl _)
theorem OnB.ne {w0 wr : World} {ρ : Nat → Role} {xb mb K : Nat} {s : St} (h : OnB w0 wr ρ xb mb K s) : xb ≠ mb := fun e => by
  obtain ⟨D, k, h1, h2, h3⟩ := h.map
  have hb := h.box
  rw [e] at hb
  obtain ⟨es, n, h4, _⟩ := h2
  simp [World.cell?, h4] at hb

set_option maxRecDepth 100000 in
set_option maxHeartbeats 12800000 in
theorem dealsO_any (w0 w : World) {xb mb : Nat} {v1 v2 : Value} {sizes : List Int} {l : List De} (hbw : Below w0.heap.size w0 w) (hbx : w.cell? ⟨xb, 0, none⟩ = some (.map (some mb))) (hbm : w.ownsMap Try.prog 3 (plainElem Try.prog 3) mb 0 (DataW.map [] : DataW Unit)) (hlm : w0.heap.size ≤ mb)
    (h1 : IntsAt w0 v1 sizes) (h2 : DealsAt w0 v2 l) (h6 : sizes.length ≤ 6) (h40 : l.length ≤ 40) (h8 : ∀ d ∈ l, d.talks.length ≤ 8) :
    Calls Try.prog 17 #[v1, v2, .func (.func 18) #[] #[.pointer (some ⟨xb, 0, none⟩)]] w fun e w' => e = .returned (.bool true) ∧ Below w0.heap.size w0 w' := by
  obtain ⟨a1, n1, cap1, rfl, hn1, hc1, hm1, hx1⟩ := h1
  obtain ⟨a2, n2, cap2, rfl, hn2, hc2, hm2, hx2⟩ := h2
  have hb1 : n1 ≤ 6 := by omega
  have hb2 : n2 ≤ 40 := by omega
  have HX1 := Lib.hid hx1
  have HX2 := Lib.hid hx2
  have HN2 := Lib.hid hn2
  have H8 := Lib.hid h8
  obtain ⟨ρ0, hl0, hf0⟩ := live_zeroF hbw 28
  have HL0 := Lib.hid hl0
  have HB0 : Hid (OnB w0 (w.alloc (.cells #[.slice none 0 0, .map none] 28)) ρ0 xb mb 0 Pp.zero) := Lib.hid ⟨hf0 _ (Nat.ne_of_lt (block_lt_of_cell hbx)), hf0 _ (Nat.ne_of_lt hbm.lt), Go.Lib.cell?_alloc_some _ hbx, ⟨_, 0, Nat.le_refl _, (alloc_new w _).map hbm id, WaitM.zero⟩, hlm⟩
  clear hx1 hx2 hn1 hn2 h8 h6 h40 hl0 hc1 hc2 hm1 hm2 hf0 hbw hbx hbm hlm
  go_enter Try.func17, Try.ntmps17
  go_wp2_with fail
  go_loopw [8] (fun i wr => ∃ k : Nat, k ≤ n1 ∧ i = .int .i64 k ∧ ∃ ρ s, Live w0 wr ρ w.heap.size 0 s ∧ OnB w0 wr ρ xb mb 0 s ∧ s.chs.length = k) (fun i _ => n1 - (intOf i).toNat)
  case atStart => exact ⟨0, Nat.zero_le _, rfl, ρ0, _, HL0.out, HB0.out, rfl⟩
  case round =>
    obtain ⟨k, hk, rfl, ρ, s, hl, hM, hsl⟩ := hrel
    rename World => wr
    have HL := Lib.hid hl
    have HM := Lib.hid hM
    have HSL := Lib.hid hsl
    clear hl hM hsl HL0 HB0
    by_cases hkn : k < n1
    · obtain ⟨b, o, rfl, hb, hcell⟩ := HX1.out (by omega)
      have hck := (HL.out.below.cell (p := ⟨b, o + k, none⟩) hb).trans (hcell k hkn)
      have hki : (0 : Int) ≤ (k : Int) ∧ (k : Int) < (n1 : Int) := by omega
      clear hcell hb
      go_wp2_with fail
      refine (pick_any _ 9 _ (by decide) (by decide)).mono ?_
      rintro e w3 ⟨sz, hsz, rfl, rfl⟩
      go_wp2_with fail
      refine (live_make HL.out sz (by omega) (by rw [HSL.out]; omega)).mono ?_
      rintro e w4 ⟨rfl, ⟨ρ', hl', hxo⟩, hko⟩
      have HL' := Lib.hid hl'
      have HM' : Hid (OnB w0 w4 ρ' xb mb 0 ⟨s.chs ++ [newCh sz], s.asks⟩) := Lib.hid (HM.out.keeps hko hxo rfl (Nat.le_refl _))
      clear hl' hxo hko
      go_wp2_with fail
      go_roundw
      case rel => exact ⟨k + 1, by omega, by go_num, ρ', _, HL'.out, HM'.out, by rw [List.length_append, HSL.out]; rfl⟩
      case measure => simp [intOf]; omega
    · obtain rfl : k = n1 := by omega
      have hkk : ¬ (k : Int) < (k : Int) := by omega
      go_wp2_with fail
      go_loopw [11] (fun i wi => ∃ T : Nat, T ≤ n2 ∧ i = .int .i64 T ∧ ∃ ρ s, Live w0 wi ρ w.heap.size T s ∧ OnB w0 wi ρ xb mb T s) (fun i _ => n2 - (intOf i).toNat)
      case atStart => exact ⟨0, Nat.zero_le _, rfl, ρ, s, HL.out, HM.out⟩
      case round =>
        obtain ⟨T, hT, rfl, ρ2, s2, hl2, hM2⟩ := hrel
        rename World => wi
        have HL2 := Lib.hid hl2
        have HM2 := Lib.hid hM2
        clear hl2 hM2 HL HM HSL
        by_cases hTn : T < n2
        · obtain ⟨b, o, rfl, hb, hd⟩ := HX2.out (by omega)
          obtain ⟨d, hget⟩ : ∃ d, l[T]? = some d := ⟨_, List.getElem?_eq_getElem (by rw [← HN2.out]; exact hTn)⟩
          obtain ⟨vt, e1, e2, e3, e5⟩ := hd T d hget
          have hd8 := H8.out d (List.mem_of_getElem? hget)
          have g1 := (HL2.out.below.cell (p := ⟨b, o + T * 2, none⟩) hb).trans e1
          have HG2 : Hid (∀ W : World, Below w0.heap.size w0 W → W.cell? ⟨b, o + T * 2 + 1, none⟩ = some (.int .i64 d.draw)) := Lib.hid fun W hW => (hW.cell (p := ⟨b, o + T * 2 + 1, none⟩) hb).trans e2
          have htk : TalksAt wi vt d.talks := e3.keeps (Keeps.of_new (S := fun _ => False) HL2.out.below) fun _ _ => id
          have hcl := cloneT_any wi htk (by omega)
          have hTi : (0 : Int) ≤ (T : Int) ∧ (T : Int) < (n2 : Int) := by omega
          have HE5 := Lib.hid e5
          clear hd e1 e2 e3 e5 hb hget htk
          go_wp2_with fail
          refine hcl.mono ?_
          rintro e w3 ⟨u, rfl, hu, hb3⟩
          obtain ⟨m, hm⟩ : ∃ m, m = d.talks.length := ⟨_, rfl⟩
          rw [← hm] at hu hd8
          obtain ⟨au, cu, rfl⟩ := own_slice hu
          have HU := Lib.hid hu
          have HB3 := Lib.hid hb3
          have HMM := Lib.hid hm.symm
          clear hu hb3 hcl hm
          go_wp2_with fail
          go_loopw [13] (fun i wx => ∃ (j : Nat) (l3 : List Tk), j ≤ m ∧ i = .int .i64 j ∧ l3.length = m ∧ wx.ownsRow wi.heap.size 61 3 (.slice au m cu) m (cellsL l3) ∧ Keeps (fun g => wi.heap.size ≤ g) wi wx) (fun i _ => m - (intOf i).toNat)
          case atStart => exact ⟨0, d.talks, Nat.zero_le _, rfl, HMM.out, HU.out, Keeps.of_new HB3.out⟩
          case round =>
            obtain ⟨j, l3, hj, rfl, hl3, hr3, hk3⟩ := hrel
            rename World => wx
            have HL3 := Lib.hid hl3
            have HR3 := Lib.hid hr3
            have HK3 := Lib.hid hk3
            clear hl3 hr3 hk3 HU HB3
            by_cases hjm : j < m
            · obtain ⟨g, rfl, hg, hmc⟩ := own_addr HR3.out (by omega)
              obtain ⟨x, hx⟩ : ∃ x, l3[j]? = some x := ⟨_, List.getElem?_eq_getElem (by rw [HL3.out]; exact hjm)⟩
              obtain ⟨-, f2, -⟩ := cellsL_get l3 j x hx
              have c2 := World.ownsRow.cells HR3.out (g := g) rfl _ _ f2
              rw [addr_addP, Nat.zero_add] at c2
              have z2 := own_free HR3.out (j * 3 + 1)
              have hji : (0 : Int) ≤ (j : Int) ∧ (j : Int) < (m : Int) := by omega
              have HX3 := Lib.hid hx
              have hpk := pick_any x.chan (k + 1) wx (by omega) (by omega)
              rw [show (((k + 1 : Nat)) : Int) = (k : Int) + 1 from by omega] at hpk
              clear hx f2
              go_wp2_with fail
              refine hpk.mono ?_
              rintro e w4 ⟨c, hc, rfl, rfl⟩
              clear hpk
              go_wp2_with fail
              go_roundw
              case rel => exact ⟨j + 1, l3.set j { x with chan := c }, by omega, by go_num, by rw [List.length_set]; exact HL3.out, by rw [← cellsL_set l3 j x c HX3.out]; exact own_setG HR3.out _, HK3.out.setCell (p := ⟨g, j * 3 + 1, none⟩) (Or.inl hg) _⟩
              case measure => simp [intOf]; omega
            · obtain rfl : j = m := by omega
              have hjj : ¬ (j : Int) < (j : Int) := by omega
              have HLX : Hid (Live w0 wx ρ2 w.heap.size T s2) := Lib.hid (HL2.out.keeps HK3.out fun g hg e => by omega)
              have HBX : Hid (OnB w0 wx ρ2 xb mb T s2) := Lib.hid (HM2.out.keeps (HK3.out.trans' (Keeps.refl _ _) (fun _ _ e => e) |>.mono fun g hg e => by omega) (fun _ _ => rfl) rfl (Nat.le_refl _))
              have g2 := HG2.out wx HLX.out.below
              have HTA : Hid (TalksAt wx (.slice au j cu) l3) := Lib.hid (talks_of_own (by rw [HL3.out]; exact HR3.out))
              have HVO : Hid (∀ g, (Value.slice au j cu).ownBlock = some g → ρ2 g = .free) := Lib.hid fun g hg => HL2.out.free (Or.inl (World.ownsRow.lt HR3.out g hg).1)
              obtain ⟨r, hr⟩ : ∃ r, Pp.talk s2 T l3 d.draw = r := ⟨_, rfl⟩
              have HWF : Hid ((Lit.int .i64 (T : Int)).wf = true) := Lib.hid (wf_small _ (by omega))
              by_cases he : r.err = 0
              · have hcl := live_talk HLX.out (by omega) T HWF.out HTA.out HVO.out d.draw HE5.out hr (er := .nilIface) (by rw [he]; rfl)
                have HON : Hid (OnceR (fun x => (s2.asks x).isSome) (fun x => (r.st.asks x).isSome) T r.wakes r.waits) := Lib.hid (by subst hr; exact talk_onceR HLX.out.pipes.1 T l3 d.draw he)
                have HPW : Hid (∀ x : Int, (s2.asks x).isSome = true → (Lit.int .i64 x).wf = true) := Lib.hid fun x hx => by
                  obtain ⟨_, vch, ptr, mb', D', h1⟩ := HLX.out.pipes
                  obtain ⟨l, hl⟩ := Option.isSome_iff_exists.1 hx
                  exact (h1.talk x l hl).1
                have HHE := Lib.hid he
                clear he hr g1
                go_wp2_with fail
                refine hcl.mono ?_
                rintro e w5 ⟨vw, rfl, ⟨ρ5, h5, hx5, -⟩, hw5, hk5⟩
                have hka := alloc_new w5 (.cells #[.int .i64 r.case, .int .i64 r.n] 40)
                have HL5 := Lib.hid (h5.new hka)
                have HB5 : Hid (OnB w0 (w5.alloc (.cells #[.int .i64 r.case, .int .i64 r.n] 40)) ρ5 xb mb T s2) := Lib.hid ((HBX.out.keeps hk5 hx5 rfl (Nat.le_refl _)).new hka)
                have HW5 := Lib.hid (hka.row hw5 fun _ _ => id)
                obtain ⟨D, k5, hk5', hD5, hW5⟩ := HB5.out.map
                have HCF := Lib.hid (onceF_any (K := T + 1) HL5.out.pipes (by omega) HB5.out.box hD5 (Nat.succ_le_succ hk5') (by omega) hW5 HB5.out.fm HB5.out.ne (t := T) HWF.out HW5.out HON.out HPW.out)
                clear h5 hcl hx5 hw5 hk5 hka hk5' hD5 hW5
                go_wp2_with fail
                refine HCF.out.mono ?_
                rintro e w6 ⟨rfl, hm6⟩
                have HL6 := Lib.hid (HL5.out.keeps hm6.keep fun g _ e => by rw [e]; exact ⟨HB5.out.fm, HB5.out.hmb⟩)
                have HB6 : Hid (OnB w0 w6 ρ5 xb mb (T + 1) r.st) := Lib.hid ⟨HB5.out.fx, HB5.out.fm, hm6.keep.cell_of HB5.out.box HB5.out.ne, hm6.map, HB5.out.hmb⟩
                clear hm6
                go_wp2_with fail
                go_roundw
                case rel => exact ⟨T + 1, by omega, by go_num, ρ5, r.st, HL6.out, HB6.out⟩
                case measure => simp [intOf]; omega
              · have hcl := live_talk HLX.out (by omega) T HWF.out HTA.out HVO.out d.draw HE5.out hr (er := .iface 63 (.int .i64 r.err)) (by unfold errV; rw [if_neg he])
                have HST : Hid (r.st = s2) := Lib.hid (by subst hr; exact talk_err he)
                clear he hr g1
                go_wp2_with fail
                refine hcl.mono ?_
                rintro e w5 ⟨vw, rfl, ⟨ρ5, h5, hx5, -⟩, -, hk5⟩
                have hka := alloc_new w5 (.cells #[.int .i64 r.case, .int .i64 r.n] 40)
                have HL5 := Lib.hid (h5.new hka)
                have HB5 : Hid (OnB w0 (w5.alloc (.cells #[.int .i64 r.case, .int .i64 r.n] 40)) ρ5 xb mb (T + 1) r.st) := Lib.hid ((HBX.out.keeps hk5 hx5 (by rw [HST.out]) (Nat.le_succ _)).new hka)
                clear h5 hcl hx5 hk5 hka
                go_wp2_with fail
                go_roundw
                case rel => exact ⟨T + 1, by omega, by go_num, ρ5, r.st, HL5.out, HB5.out⟩
                case measure => simp [intOf]; omega
        · obtain rfl : T = n2 := by omega
          have hTT : ¬ (T : Int) < (T : Int) := by omega
          go_wp2_with fail
          go_ret
          exact ⟨rfl, HL2.out.below⟩
end Go.Proofs.Ytpehmghnfbkaaaa
