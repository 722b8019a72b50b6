/-
  The walk of package pipe's Look: all channels, one behind the other.
-/
import Derived.Test.YtpehmghnfbkaaaaPipeLA
import Derived.Test.YtpehmghnfbkaaaaPipeW1
namespace Go.Proofs.Ytpehmghnfbkaaaa
open Go.RowKit Go.Maps Pp

/-- What is seen of one channel, and where its rows lie. -/
structure Sn where
  c : Ch
  vn : Value
  u1 : Value
  u2 : Value
def cellsP (l : List Sn) : List Value := l.flatMap fun x => [.int .i64 (x.c.size : Int), x.vn, .bool x.c.shut, x.u1, x.u2]
theorem cellsP_append (a b : List Sn) : cellsP (a ++ b) = cellsP a ++ cellsP b := by simp [cellsP]
theorem cellsP_len (l : List Sn) : (cellsP l).length = l.length * 5 := by
  induction l with
  | nil => rfl
  | cons w r ih =>
    have : cellsP (w :: r) = .int .i64 (w.c.size : Int) :: w.vn :: .bool w.c.shut :: w.u1 :: w.u2 :: cellsP r := rfl
    rw [this]; simp only [List.length_cons, ih]; omega
/-- All that was looked at. -/
structure Looked (w : World) (B : Nat) (v : Value) (L : List Sn) : Prop where
  row : w.ownsRow B 52 5 v L.length (cellsP L)
  seen : ∀ x ∈ L, SeenC w B x.c x.vn x.u1 x.u2
theorem own_apart {w : World} {B B' : Nat} {t t' : TypeId} {n n' : Nat} {v v' : Value} {m m' : Nat} {cs cs' : List Value} (h : w.ownsRow B t n v m cs) (h' : w.ownsRow B' t' n' v' m' cs') (ht : t ≠ t') : ∀ b, v.ownBlock = some b → ¬ v'.ownBlock = some b := fun b hb hb' => by
  rcases h.2 with ⟨rfl, _⟩ | ⟨g, cap, cur, rfl, _, hg, _⟩
  · cases hb
  · rcases h'.2 with ⟨rfl, _⟩ | ⟨g', cap', cur', rfl, _, hg', _⟩
    · cases hb'
    · cases hb
      have e : g' = g := Option.some.inj hb'
      subst e
      rw [hg] at hg'
      injection hg' with hg'
      injection hg' with _ e2
      exact ht e2
theorem SeenC.keeps {S : Nat → Prop} {w w' : World} {B : Nat} {c : Ch} {vn u1 u2 : Value} (h : SeenC w B c vn u1 u2) (hk : Keeps S w w') (h0 : ∀ b, vn.ownBlock = some b → ¬ S b) (h1 : ∀ b, u1.ownBlock = some b → ¬ S b) (h2 : ∀ b, u2.ownBlock = some b → ¬ S b) : SeenC w' B c vn u1 u2 :=
  ⟨h.nums.keeps hk h0, hk.row h.sends h1, hk.row h.recvs h2⟩
theorem SeenC.mono {w : World} {B B' : Nat} {c : Ch} {vn u1 u2 : Value} (h : SeenC w B c vn u1 u2) (hB : B' ≤ B) : SeenC w B' c vn u1 u2 := ⟨own_lower h.nums hB, own_lower h.sends hB, own_lower h.recvs hB⟩
theorem own_slice {w : World} {B : Nat} {t : TypeId} {n : Nat} {v : Value} {m : Nat} {cs : List Value} (h : w.ownsRow B t n v m cs) : ∃ ao cap, v = .slice ao m cap := by
  rcases h.2 with ⟨rfl, h0⟩ | ⟨g, cap, cur, rfl, _⟩
  · exact ⟨none, 0, by rw [h0]⟩
  · exact ⟨_, _, rfl⟩
theorem Looked.new {w w' : World} {B : Nat} {v : Value} {L : List Sn} (h : Looked w B v L) (hb : Below w.heap.size w w') : Looked w' B v L :=
  ⟨(Keeps.of_new (S := fun _ => False) hb).row h.row fun _ _ => id, fun x hx => (h.seen x hx).keeps (Keeps.of_new (S := fun _ => False) hb) (fun _ _ => id) (fun _ _ => id) fun _ _ => id⟩
/-- An append of another row leaves it. -/
theorem SeenC.far {w w' : World} {B B' : Nat} {c : Ch} {vn u1 u2 v : Value} {m : Nat} {cs : List Value} (h : SeenC w B c vn u1 u2) (hr : w.ownsRow B' 52 5 v m cs) (hk : Keeps (fun b => v.ownBlock = some b) w w') : SeenC w' B c vn u1 u2 :=
  h.keeps hk (own_apart h.nums hr (by decide)) (own_apart h.sends hr (by decide)) (own_apart h.recvs hr (by decide))
theorem info_pipe : (Try.prog.info? 52).map (fun i => (i.zero, i.size, i.bytes)) = some (some (.agg #[.int .i64 0, .slice none 0 0, .bool false, .slice none 0 0, .slice none 0 0]), 5, 88) := by kernel_rfl
/-- 'l = append(l, x)'. -/
theorem wpList_appendSn {ops : Array Oper} {rest : List Oper} {o : Oper} {a : Act} {Q : Exit → Act → World → Prop} (hgd : o.guard = none) (s x : Operand)
    (ho : o.op = .call { callee := .builtin .append, args := #[s, x], argTypes := #[48, 48] }) (w : World) (B : Nat) (v : Value) (L : List Sn) (c : Ch) {a0 a1 a2 : Option Addr} {n0 n1 n2 k0 k1 k2 : Nat} (hown : Looked w B v L) (hs : a.eval s = v) {b : Nat} (hb : b = w.heap.size)
    (hseen : SeenC w B c (.slice a0 n0 k0) (.slice a1 n1 k1) (.slice a2 n2 k2))
    (hx : a.eval x = .slice (some ⟨b, 0, none⟩) 1 1) (hl : L.length ≤ 1000000) (hB : B ≤ w.heap.size)
    (h : ∀ ao' cap' w', Looked w' B (.slice ao' (L.length + 1) cap') (L ++ [Sn.mk c (.slice a0 n0 k0) (.slice a1 n1 k1) (.slice a2 n2 k2)]) → Keeps (fun b => v.ownBlock = some b) w w' →
      wpList Try.prog ops Q rest (a.put o.dst (.slice ao' (L.length + 1) cap')) w') : wpList Try.prog ops Q (o :: rest) a (w.alloc (.cells #[.int .i64 (c.size : Int), .slice a0 n0 k0, .bool c.shut, .slice a1 n1 k1, .slice a2 n2 k2] 52)) := by
  subst hb
  obtain ⟨i0, hi, hz0, hz1, hz2⟩ := tinfoP info_pipe
  have hnew : ∀ j u, [Value.int .i64 (c.size : Int), .slice a0 n0 k0, .bool c.shut, .slice a1 n1 k1, .slice a2 n2 k2][j]? = some u → (w.alloc (.cells #[.int .i64 (c.size : Int), .slice a0 n0 k0, .bool c.shut, .slice a1 n1 k1, .slice a2 n2 k2] 52)).cell? ((⟨w.heap.size, 0, none⟩ : Addr).add j) = some u := fun j u hu => by
    rw [addr_addP, World.cell?_alloc_at _ _ _ _ rfl]
    rcases j with _ | _ | _ | _ | _ | j
    · exact hu
    · exact hu
    · exact hu
    · exact hu
    · exact hu
    · simp at hu
  refine wpList_append_own_at _ hgd s x 48 ho B 52 i0 _ 5 88 Try.underlying48 hi hz0 hz1 hz2 rfl (by decide) v L.length (cellsP L) hs (World.ownsRow.alloc hown.row _) ⟨w.heap.size, 0, none⟩ 1 1 [.int .i64 (c.size : Int), .slice a0 n0 k0, .bool c.shut, .slice a1 n1 k1, .slice a2 n2 k2] hx rfl
    hnew (fun u hu => by simp at hu; rcases hu with rfl | rfl | rfl | rfl | rfl <;> rfl) (by unfold maxLen; omega) (by omega) (by simp; omega) ?_
  intro v' w' h1 h2 _ h4
  have hk := keeps_append h2 (S := fun b => v.ownBlock = some b) fun k e => e
  have hO : w'.ownsRow B 52 5 v' (L ++ [Sn.mk c (.slice a0 n0 k0) (.slice a1 n1 k1) (.slice a2 n2 k2)]).length (cellsP (L ++ [Sn.mk c (.slice a0 n0 k0) (.slice a1 n1 k1) (.slice a2 n2 k2)])) := by
    rw [cellsP_append, List.length_append]
    exact h1
  have hsl : ∃ ao' cap', v' = .slice ao' (L.length + 1) cap' := by
    rcases hO.2 with ⟨_, h0⟩ | ⟨g, cap, cur, rfl, _⟩
    · simp at h0
    · exact ⟨some ⟨g, 0, none⟩, cap, by rw [List.length_append]; rfl⟩
  obtain ⟨ao', cap', rfl⟩ := hsl
  refine h _ _ _ ⟨hO, fun y hy => ?_⟩ hk
  rcases List.mem_append.1 hy with hy | hy
  · exact (hown.seen y hy).far hown.row hk
  · rw [List.mem_singleton.1 hy]
    exact hseen.far hown.row hk

set_option maxRecDepth 100000 in
set_option maxHeartbeats 3200000 in
theorem look_any {w : World} {ρ : Nat → Role} {pb N : Nat} {s : St} (h : Pipes w ρ pb N s) (hN : N ≤ 1000000) : Calls Try.prog 14 #[.pointer (some ⟨pb, 0, none⟩)] w fun e w' =>
    ∃ ao cap, e = .returned (.slice ao s.chs.length cap) ∧ ∃ L, L.map Sn.c = s.chs ∧ Looked w' w.heap.size (.slice ao s.chs.length cap) L ∧ Below w.heap.size w w' := by
  obtain ⟨ok, vch, ptr, mb, D, h⟩ := h
  obtain ⟨av, capv, rfl, h1, h2, h3⟩ := ptr_row h.row
  have HH := Lib.hid h
  have HO := Lib.hid ok
  have H3 := Lib.hid h3
  have HL := Lib.hid h.len
  have hpl : ptr.length ≤ 32 := by have := h.len; have := h.many; omega
  have c0 := h.c0
  clear h ok h3
  go_enter Try.func14, Try.ntmps14
  go_wp2_with fail
  go_loopw [3, 11] (fun l i W => ∃ (k : Nat) (a : Option Addr) (cap : Nat) (L : List Sn), k ≤ ptr.length ∧ i = .int .i64 k ∧ l = .slice a k cap ∧ L.map Sn.c = s.chs.take k ∧ Looked W w.heap.size (.slice a k cap) L ∧ Below w.heap.size w W) (fun _ i _ => ptr.length - (intOf i).toNat)
  case atStart => exact ⟨0, none, 0, [], Nat.zero_le _, rfl, rfl, rfl, ⟨World.ownsRow_nil _ _ _ _, fun _ h => by cases h⟩, Below.refl _ _⟩
  case round =>
    obtain ⟨k, a, cap, L, hk, rfl, rfl, hm, hlk, hb⟩ := hrel
    have HM := Lib.hid hm
    have HLK := Lib.hid hlk
    have HB := Lib.hid hb
    have hLl : Hid (L.length = k) := Lib.hid (by
      have := congrArg List.length HM.out
      rw [List.length_map, List.length_take] at this
      have := HL.out
      omega)
    clear hm hlk hb
    by_cases hlt : k < ptr.length
    · obtain ⟨g, rfl, hg⟩ := H3.out (by omega)
      obtain ⟨cb, hcb⟩ : ∃ cb, ptr[k]? = some cb := ⟨_, List.getElem?_eq_getElem hlt⟩
      obtain ⟨c, hc⟩ : ∃ c, s.chs[k]? = some c := ⟨_, List.getElem?_eq_getElem (by have := HL.out; omega)⟩
      have hgw := hg k cb hcb
      have hgW : wr.cell? ⟨g, k, none⟩ = some (.pointer (some ⟨cb, 0, none⟩)) := (HB.out.cell (p := ⟨g, k, none⟩) (block_lt_of_cell hgw)).trans hgw
      obtain ⟨rb, sb, v1, v2, hx⟩ := HH.out.chs k cb c hcb hc
      have hxr := HH.out.rows k c hc
      have hcap := HO.out.caps k c hc
      have hcl := lookC_any wr (hx.keeps (Keeps.of_new (S := fun _ => False) HB.out) fun _ _ _ => id) (by omega) (by omega) (by omega)
      have HC := Lib.hid hc
      have hki : (0 : Int) ≤ (k : Int) ∧ (k : Int) < (ptr.length : Int) := by omega
      have hk32 : k ≤ 32 := by omega
      clear hgw hx hxr hcap hg hcb hc
      go_wp2_with fail
      refine hcl.mono ?_
      rintro e w2 ⟨vn, u1, u2, rfl, hs2, hb2⟩
      obtain ⟨a0, k0, rfl⟩ := OwnI.slice hs2.nums
      obtain ⟨a1, k1, rfl⟩ := own_slice hs2.sends
      obtain ⟨a2, k2, rfl⟩ := own_slice hs2.recvs
      have HS2 := Lib.hid (hs2.mono HB.out.size)
      have HB2 := Lib.hid (bel_step HB.out hb2)
      have HL2 := Lib.hid (HLK.out.new hb2)
      have hsz2 : w.heap.size ≤ w2.heap.size := HB2.out.size
      clear hs2 hb2 hcl
      have hLl32 : L.length ≤ 1000000 := by have := hLl.out; omega
      go_wp2_with (at_builtin; refine wpList_appendSn rfl _ _ rfl _ w.heap.size _ L c HL2.out rfl rfl HS2.out rfl hLl32 hsz2 ?_)
      intro a3 k3 w3 h3 hk3
      rw [hLl.out] at h3 ⊢
      have HL3 := Lib.hid h3
      have HB3 : Hid (Below w.heap.size w w3) := Lib.hid (HB2.out.trans (hk3.below hsz2 fun b _ hb => (World.ownsRow.lt HL2.out.row b hb).1))
      clear h3 hk3
      go_wp2_with fail
      go_roundw
      case rel => exact ⟨k + 1, _, _, _, by omega, by go_num, rfl, by rw [List.map_append, HM.out, List.take_add_one, HC.out]; rfl, HL3.out, HB3.out⟩
      case measure => simp [intOf]; omega
    · obtain rfl : k = ptr.length := by omega
      have hkk : ¬ (ptr.length : Int) < (ptr.length : Int) := by omega
      go_wp2_with fail
      go_ret
      have hm := HM.out
      have hl := HL.out
      rw [List.take_of_length_le (by omega)] at hm
      rw [← hl]
      exact ⟨a, cap, rfl, L, hm, HLK.out, HB.out⟩
end Go.Proofs.Ytpehmghnfbkaaaa
