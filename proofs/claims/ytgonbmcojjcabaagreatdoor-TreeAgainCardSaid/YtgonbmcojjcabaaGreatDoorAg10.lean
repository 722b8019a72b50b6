/-
  Texts of one proof, in build order: The printer's choose, by what is asked of stmts. | The printer's stmt, of every statement; stmts. | The printer's function. | tree.Print. | How a tree is written doesn't hang on its places. | How long a tree is written at most, and its numbers, by the tokens that it was read from. | .. statements, functions, a program. | .. functions, a program; by the text. | The program that the laws hold up: its tree, and how it is written.
-/
import Derived.Test.YtgonbmcojjcabaaGreatDoorAg9
import Derived.Lib.ItoaLen
namespace Go.Proofs.YtgonbmcojjcabaaGreatDoor
open Go.RowKit Lx Tr
variable {w w' : World}

def Tr.Cas.toList : Cas → List Ca
  | .nil => []
  | .cons x xs => x :: xs.toList
theorem cas_len : ∀ xs : Cas, xs.toList.length = xs.len
  | .nil => rfl
  | .cons _ xs => congrArg (· + 1) (cas_len xs)
def casL (d : Nat) : List Ca → Lx.B
  | [] => []
  | x :: xs => caV d x ++ casL d xs
theorem casV_list (d : Nat) : ∀ xs : Cas, casV d xs = casL d xs.toList
  | .nil => by rw [casV]; rfl
  | .cons x xs => by rw [casV, casV_list d xs]; rfl
theorem casL_snoc (d : Nat) : ∀ (l : List Ca) (x : Ca), casL d (l ++ [x]) = casL d l ++ caV d x
  | [], x => by show caV d x ++ [] = [] ++ caV d x; rw [List.append_nil, List.nil_append]
  | y :: l, x => by show caV d y ++ casL d (l ++ [x]) = _; rw [casL_snoc d l x, ← List.append_assoc]; rfl
theorem casL_le (d : Nat) : ∀ (l : List Ca) (k : Nat), (casL d (l.take k)).length ≤ (casL d l).length
  | [], k => by simp [casL]
  | x :: xs, 0 => Nat.zero_le _
  | x :: xs, k + 1 => by
    show (caV d x ++ casL d (xs.take k)).length ≤ (caV d x ++ casL d xs).length
    have := casL_le d xs k
    simp only [List.length_append]
    omega
theorem casIn_at {F : Nat → Prop} {g : Nat} : ∀ (xs : Cas) (i : Nat), CasIn w F g i xs → ∀ (j : Nat) (x : Ca), xs.toList[j]? = some x → CaIn w F g ((i + j) * 6) x
  | .nil, _, _, j, x, h => by simp [Tr.Cas.toList] at h
  | .cons y ys, i, ⟨h1, _⟩, 0, x, h => by
    have e : y = x := by simpa [Tr.Cas.toList] using h
    subst e
    exact h1
  | .cons y ys, i, ⟨_, h2⟩, j + 1, x, h => by
    have := casIn_at ys (i + 1) h2 j x (by simpa [Tr.Cas.toList] using h)
    rw [show i + (j + 1) = i + 1 + j by omega]; exact this
/-- What is asked of a case's body; numbers that a text can have. -/
def CaW (B b : Nat) : Ca → Prop
  | .mk _ _ _ dst val body => ExOk dst ∧ ExOk val ∧ StsW B b body

set_option maxRecDepth 100000 in
set_option maxHeartbeats 12800000 in
theorem pchoose_any {B b d : Nat} {at_ : Nat} {tq vq no eo co : Option Addr} {nn nc en ec cn cc : Nat} {name : Lx.B} {dst val : Ex} {thn els : Sts} {cases : Cas} (hA : ∀ x ∈ cases.toList, CaW B b x) (l : List UInt8) (w : World) (h : PC B b l w) (hB : B ≤ w.heap.size) (hP : PEnv B w) (hv : StV w (fun k => k < B) (.pointer tq) (.pointer vq) (.slice no nn nc) (.slice eo en ec) (.slice co cn cc) dst val thn els cases) (hlen : l.length + (lineV d cSelect ++ (casL d cases.toList ++ lineV d cEnd)).length ≤ 1000000) :
    Writes B b l (lineV d cSelect ++ (casL d cases.toList ++ lineV d cEnd)) w 128 #[.pointer (some ⟨b, 0, none⟩), .agg #[.int .i64 14, .int .i64 (at_ : Nat), .string (mkT name), .pointer tq, .pointer vq, .slice no nn nc, .slice eo en ec, .slice co cn cc], .int .i64 (d : Nat)] := by
  unfold Writes
  have hbw := fresh_alloc w #[.int .i64 14, .int .i64 (at_ : Nat), .string (mkT name), .pointer tq, .pointer vq, .slice no nn nc, .slice eo en ec, .slice co cn cc] 49
  have hblt := h.1.lt

  have HL : Hid (l.length + ((lineV d cSelect).length + ((casL d cases.toList).length + (lineV d cEnd).length)) ≤ 1000000) := Lib.hid (by rw [List.length_append, List.length_append] at hlen; exact hlen)
  have hd : d ≤ 1000000 := by have := HL.out; simp only [lineV_len] at this; omega
  have hw : IntKind.i64.wrap ((d : Int) + 1) = ((d + 1 : Nat) : Int) := by rw [IntWalk.i64_in _ (by omega)]; omega
  have hcn : cn = cases.toList.length := by rw [cas_len]; exact slAt_len hv.2.2.2.2.2.2.1
  subst hcn
  have hn0 : cases.toList.length ≤ 9223372036854775807 := by
    rw [cas_len]
    rcases hv.2.2.2.2.2.2.1 with ⟨_, e2⟩ | ⟨g, cap, _, h1, h2, _⟩
    · omega
    · unfold maxLen at h2; omega
  have HA := Lib.hid hA
  have HB := Lib.hid hB
  have HP := Lib.hid hP
  have HG : Hid (∀ k x, cases.toList[k]? = some x → ∃ g, co = some ⟨g, 0, none⟩ ∧ g < B ∧ CaIn w (fun k => k < B) g (k * 6) x) := Lib.hid fun k x hx => by
    rcases hv.2.2.2.2.2.2.1 with ⟨e, e2⟩ | ⟨g, cap, e, _, _, _, hg⟩
    · rw [← cas_len] at e2
      have := List.getElem?_eq_none (l := cases.toList) (i := k) (by omega)
      rw [this] at hx; cases hx
    · have hst := hv.2.2.2.2.2.2.2 g _ _ e
      injection e with e1 _ _
      refine ⟨g, e1, hg, ?_⟩
      have := casIn_at cases 0 hst k x hx
      rw [Nat.zero_add] at this; exact this
  have HB1 := Lib.hid (hbw.mono hB)
  have HO1 : Hid (Others b w (w.alloc (.cells #[.int .i64 14, .int .i64 (at_ : Nat), .string (mkT name), .pointer tq, .pointer vq, .slice no nn nc, .slice eo en ec, .slice co cases.toList.length cc] 49))) := Lib.hid (Others.of_new hbw)
  have HNE : Hid (w.heap.size ≠ b) := Lib.hid (by omega)
  have HH1 : Hid ((w.alloc (.cells #[.int .i64 14, .int .i64 (at_ : Nat), .string (mkT name), .pointer tq, .pointer vq, .slice no nn nc, .slice eo en ec, .slice co cases.toList.length cc] 49)).heap[w.heap.size]? = some (Obj.cells #[.int .i64 14, .int .i64 (at_ : Nat), .string (mkT name), .pointer tq, .pointer vq, .slice no nn nc, .slice eo en ec, .slice co cases.toList.length cc] 49 (0, 0))) := Lib.hid (heap_alloc_new w _)
  have HC1 := Lib.hid (line_new B b d l [mkT cSelect] (w.alloc (.cells #[.int .i64 14, .int .i64 (at_ : Nat), .string (mkT name), .pointer tq, .pointer vq, .slice no nn nc, .slice eo en ec, .slice co cases.toList.length cc] 49)) (h.fresh hbw) (Nat.le_trans hB hbw.size) (by have := HL.out; rw [catV1]; omega) (by simp))
  rw [catV1, alloc_size w] at HC1
  clear h hB hP hv hlen hbw hblt hd hA
  go_enter Tryz.func128, Tryz.ntmps128
  go_wp2_with fail
  refine HC1.out.mono ?_
  rintro e w2 ⟨rfl, h2, hb2, ho2⟩
  have H2 := Lib.hid h2
  have HB2 := Lib.hid (HB1.out.trans hb2)
  have HO2 := Lib.hid (HO1.out.trans ho2)
  have hh2 := ho2.heap HNE.out (by decide) HH1.out
  have d2_7 : w2.cell? ⟨w.heap.size, 7, none⟩ = some (.slice co cases.toList.length cc) := by rw [Lib.cell_of_heap hh2]; rfl
  clear h2 hb2 ho2 hh2
  go_wp2_with fail
  go_loopw [15, 7] (fun i _ wr => ∃ k : Nat, k ≤ cases.toList.length ∧ i = .int .i64 k ∧ PC B b (l ++ (lineV d cSelect ++ casL d (cases.toList.take k))) wr ∧ Below B w wr ∧ Others b w wr) (fun i _ _ => cases.toList.length - (intOf i).toNat)
  case atStart => exact ⟨0, Nat.zero_le _, rfl, by rw [List.take_zero]; show PC B b (l ++ (lineV d cSelect ++ [])) w2; rw [List.append_nil]; exact H2.out, HB2.out, HO2.out⟩
  case round =>
    obtain ⟨k, hk, rfl, hp, hb, ho⟩ := hrel
    have HPP := Lib.hid hp
    have HBL := Lib.hid hb
    have HO := Lib.hid ho
    clear hp hb ho d2_7
    by_cases hlt : k < cases.toList.length
    · obtain ⟨x, hkx⟩ : ∃ x, cases.toList[k]? = some x := ⟨_, List.getElem?_eq_getElem hlt⟩
      obtain ⟨g, rfl, hg, hst⟩ := HG.out k x hkx
      have hmem : x ∈ cases.toList := List.mem_of_getElem? hkx
      have htk : casL d (cases.toList.take (k + 1)) = casL d (cases.toList.take k) ++ caV d x := by rw [List.take_add_one, hkx]; exact casL_snoc d _ x
      have hle := casL_le d cases.toList (k + 1)
      rw [htk, List.length_append] at hle
      have hW := HA.out x hmem
      obtain ⟨code, cat_, cname, cdst, cval, body⟩ := x
      obtain ⟨hok1, hok2, hSW⟩ := hW
      obtain ⟨tv, vv, nv, c0, c1, c2, c3, c4, c5, hv1, hv2, hv3, hv4⟩ := hst
      obtain ⟨ctq, rfl⟩ := exIn_ptr hv1
      obtain ⟨cvq, rfl⟩ := exIn_ptr hv2
      obtain ⟨cbo, cbn, cbc, rfl⟩ := slAt_form hv3
      rw [← HBL.out.cell (p := ⟨g, k * 6, none⟩) hg] at c0
      rw [← HBL.out.cell (p := ⟨g, k * 6 + 1, none⟩) hg] at c1
      rw [← HBL.out.cell (p := ⟨g, k * 6 + 2, none⟩) hg] at c2
      rw [← HBL.out.cell (p := ⟨g, k * 6 + 3, none⟩) hg] at c3
      rw [← HBL.out.cell (p := ⟨g, k * 6 + 4, none⟩) hg] at c4
      rw [← HBL.out.cell (p := ⟨g, k * 6 + 5, none⟩) hg] at c5
      have hcaV : caV d (.mk code cat_ cname cdst cval body) = lineV d (talkV code cname cdst cval ++ cColon) ++ stsV (d + 1) body := by rw [caV]
      rw [hcaV, List.length_append] at hle
      rw [hcaV] at htk
      have hki : (k : Int) < (cases.toList.length : Int) := by omega
      have hkii : (0 : Int) ≤ (k : Int) ∧ (k : Int) < (cases.toList.length : Int) := by omega
      have hw1 : IntKind.i64.wrap ((k : Int) + 1) = (k : Int) + 1 := IntWalk.i64_in _ (by omega)
      have HTK := Lib.hid htk
      have HLE : Hid (l.length + ((lineV d cSelect).length + ((casL d (cases.toList.take k)).length + ((lineV d (talkV code cname cdst cval ++ cColon)).length + (stsV (d + 1) body).length))) ≤ 1000000) := Lib.hid (by have := HL.out; omega)
      have hbc := fresh_alloc wr #[.int .i64 (code : Nat), .int .i64 (cat_ : Nat), .string (mkT cname), .pointer ctq, .pointer cvq, .slice cbo cbn cbc] 153
      have hsz := Nat.le_trans HB.out HBL.out.size
      have hbB := HBL.out.trans (hbc.mono hsz)
      have hbltr := HPP.out.1.lt
      have HBc := Lib.hid hbB
      have HOc : Hid (Others b w (wr.alloc (.cells #[.int .i64 (code : Nat), .int .i64 (cat_ : Nat), .string (mkT cname), .pointer ctq, .pointer cvq, .slice cbo cbn cbc] 153))) := Lib.hid (HO.out.trans (Others.of_new hbc))
      have HTALK := Lib.hid (ptalk_any (at_ := (cat_ : Int)) (no := cbo) (nn := cbn) (nc := cbc) (name := cname) (code := code) (wr.alloc (.cells #[.int .i64 (code : Nat), .int .i64 (cat_ : Nat), .string (mkT cname), .pointer ctq, .pointer cvq, .slice cbo cbn cbc] 153)) (Nat.le_trans hsz hbc.size) (HP.out.below hbB) hok1 hok2 (hv1.below hbB) (hv2.below hbB) (by have := HLE.out; have e9 := lineV_len d (talkV code cname cdst cval ++ cColon); rw [List.length_append] at e9; omega))
      have HPc : Hid (∀ V, Below (wr.alloc (.cells #[.int .i64 (code : Nat), .int .i64 (cat_ : Nat), .string (mkT cname), .pointer ctq, .pointer cvq, .slice cbo cbn cbc] 153)).heap.size (wr.alloc (.cells #[.int .i64 (code : Nat), .int .i64 (cat_ : Nat), .string (mkT cname), .pointer ctq, .pointer cvq, .slice cbo cbn cbc] 153)) V → PC B b (l ++ (lineV d cSelect ++ casL d (cases.toList.take k))) V) := Lib.hid fun V hV => (HPP.out.fresh hbc).fresh hV
      have HSZ : Hid (B ≤ (wr.alloc (.cells #[.int .i64 (code : Nat), .int .i64 (cat_ : Nat), .string (mkT cname), .pointer ctq, .pointer cvq, .slice cbo cbn cbc] 153)).heap.size) := Lib.hid (Nat.le_trans hsz hbc.size)
      have HNEc : Hid (wr.heap.size ≠ b) := Lib.hid (by omega)
      have HLTc : Hid (wr.heap.size < (wr.alloc (.cells #[.int .i64 (code : Nat), .int .i64 (cat_ : Nat), .string (mkT cname), .pointer ctq, .pointer cvq, .slice cbo cbn cbc] 153)).heap.size) := Lib.hid (by rw [alloc_size]; exact Nat.lt_succ_self _)
      have HHc : Hid ((wr.alloc (.cells #[.int .i64 (code : Nat), .int .i64 (cat_ : Nat), .string (mkT cname), .pointer ctq, .pointer cvq, .slice cbo cbn cbc] 153)).heap[wr.heap.size]? = some (Obj.cells #[.int .i64 (code : Nat), .int .i64 (cat_ : Nat), .string (mkT cname), .pointer ctq, .pointer cvq, .slice cbo cbn cbc] 153 (0, 0))) := Lib.hid (heap_alloc_new wr _)
      have HSTS : Hid (∀ V (l' : List UInt8), PC B b l' V → Below B w V → l'.length + (stsV (d + 1) body).length ≤ 1000000 → Writes B b l' (stsV (d + 1) body) V 67 #[.pointer (some ⟨b, 0, none⟩), .slice cbo cbn cbc, .int .i64 ((d + 1 : Nat) : Int)]) := Lib.hid fun V l' h1 h2 h3 =>
        hSW l' V (d + 1) cbo cbn cbc h1 (Nat.le_trans HB.out h2.size) (HP.out.below h2) hv3 (fun g' n' cap' e => StsIn.keeps (Keeps.of_below (S := fun k => B ≤ k) h2 (fun _ _ e => e)) (fun b h1 h2 => by have h3 : b < B := h1; have h4 : B ≤ b := h2; omega) g' (hv3.mem e) 0 body (hv4 g' n' cap' e)) h3
      clear hkx hg hmem htk hle hv1 hv2 hv3 hv4 hcaV hbc hsz hbB hbltr hok1 hok2 hSW
      go_wp2_with fail
      refine HTALK.out.mono ?_
      rintro e w3 ⟨rfl, hb3⟩
      have H3 := Lib.hid (HPc.out w3 hb3)
      have HB3 := Lib.hid (HBc.out.trans (hb3.mono HSZ.out))
      have HO3 : Hid (Others b w w3) := Lib.hid (HOc.out.trans (Others.of_new hb3))
      have HH3 : Hid (w3.heap[wr.heap.size]? = some (Obj.cells #[.int .i64 (code : Nat), .int .i64 (cat_ : Nat), .string (mkT cname), .pointer ctq, .pointer cvq, .slice cbo cbn cbc] 153 (0, 0))) := Lib.hid (by rw [hb3.block _ HLTc.out]; exact HHc.out)
      have HC3 := Lib.hid (line_new B b d _ [mkT (talkV code cname cdst cval), mkT cColon] w3 H3.out (Nat.le_trans HB.out HB3.out.size) (by have := HLE.out; rw [catV2]; simp only [List.length_append]; omega) (by simp))
      rw [catV2] at HC3
      clear hb3
      go_wp2_with fail
      refine HC3.out.mono ?_
      rintro e w4 ⟨rfl, h4, hb4, ho4⟩
      have HB4 := Lib.hid (HB3.out.trans hb4)
      have HO4 := Lib.hid (HO3.out.trans ho4)
      have hh4 := ho4.heap HNEc.out (by decide) HH3.out
      have d4_5 : w4.cell? ⟨wr.heap.size, 5, none⟩ = some (.slice cbo cbn cbc) := by rw [Lib.cell_of_heap hh4]; rfl
      have HC4 := Lib.hid (HSTS.out w4 _ h4 HB4.out (by have := HLE.out; simp only [List.length_append]; omega))
      clear h4 hb4 ho4 hh4
      go_wp2_with fail
      refine HC4.out.mono ?_
      rintro e w5 ⟨rfl, h5, hb5, ho5⟩
      have H5 : Hid (PC B b (l ++ (lineV d cSelect ++ casL d (cases.toList.take (k + 1)))) w5) := Lib.hid (by
        rw [HTK.out]
        simp only [List.append_assoc] at h5 ⊢
        exact h5)
      have HB5 := Lib.hid (HB4.out.trans hb5)
      have HO5 := Lib.hid (HO4.out.trans ho5)
      clear h5 hb5 ho5
      go_wp2_with fail
      exact ⟨⟨k + 1, by omega, by simp, H5.out, HB5.out, HO5.out⟩, by simp [intOf]; omega⟩
    · have hki : ¬ (k : Int) < (cases.toList.length : Int) := by omega
      have hkk : k = cases.toList.length := by omega
      have h1 := HPP.out
      rw [hkk, List.take_length] at h1
      have HC2 := Lib.hid (line_new B b d _ [mkT cEnd] wr h1 (Nat.le_trans HB.out HBL.out.size) (by have := HL.out; rw [catV1]; simp only [List.length_append]; omega) (by simp))
      rw [catV1] at HC2
      clear hkk h1
      go_wp2_with fail
      refine HC2.out.mono ?_
      rintro e w3 ⟨rfl, h3, hb3, ho3⟩
      have H3 : Hid (PC B b (l ++ (lineV d cSelect ++ (casL d cases.toList ++ lineV d cEnd))) w3) := Lib.hid (by
        simp only [List.append_assoc] at h3 ⊢
        exact h3)
      have HB3 := Lib.hid (HBL.out.trans hb3)
      have HO3 := Lib.hid (HO.out.trans ho3)
      clear h3 hb3 ho3
      go_wp2_with fail
      try simp only [Exit.inBlock, Exit.then]
      go_end0
      exact ⟨rfl, H3.out, HB3.out, HO3.out⟩
end Go.Proofs.YtgonbmcojjcabaaGreatDoor

namespace Go.Proofs.YtgonbmcojjcabaaGreatDoor
open Go.RowKit Lx Tr
variable {w w' : World}

set_option maxRecDepth 100000 in
set_option maxHeartbeats 12800000 in
theorem stmt_select {B b d : Nat} {at_ : Nat} {tq vq no eo co : Option Addr} {nn nc en ec cn cc : Nat} {name : Lx.B} {dst val : Ex} {thn els : Sts} {cases : Cas} (hA : ∀ x ∈ cases.toList, CaW B b x) (l : List UInt8) (w : World) (h : PC B b l w) (hB : B ≤ w.heap.size) (hP : PEnv B w) (hv : StV w (fun k => k < B) (.pointer tq) (.pointer vq) (.slice no nn nc) (.slice eo en ec) (.slice co cn cc) dst val thn els cases) (hlen : l.length + (lineV d cSelect ++ (casL d cases.toList ++ lineV d cEnd)).length ≤ 1000000) :
    Writes B b l (lineV d cSelect ++ (casL d cases.toList ++ lineV d cEnd)) w 97 #[.pointer (some ⟨b, 0, none⟩), .agg #[.int .i64 14, .int .i64 (at_ : Nat), .string (mkT name), .pointer tq, .pointer vq, .slice no nn nc, .slice eo en ec, .slice co cn cc], .int .i64 (d : Nat)] := by
  have hb := fresh_alloc w #[.int .i64 14, .int .i64 (at_ : Nat), .string (mkT name), .pointer tq, .pointer vq, .slice no nn nc, .slice eo en ec, .slice co cn cc] 49
  have HG : Hid (Writes B b l (lineV d cSelect ++ (casL d cases.toList ++ lineV d cEnd)) (w.alloc (.cells #[.int .i64 14, .int .i64 (at_ : Nat), .string (mkT name), .pointer tq, .pointer vq, .slice no nn nc, .slice eo en ec, .slice co cn cc] 49)) 128 #[.pointer (some ⟨b, 0, none⟩), .agg #[.int .i64 14, .int .i64 (at_ : Nat), .string (mkT name), .pointer tq, .pointer vq, .slice no nn nc, .slice eo en ec, .slice co cn cc], .int .i64 (d : Nat)]) := Lib.hid (pchoose_any hA l (w.alloc (.cells #[.int .i64 14, .int .i64 (at_ : Nat), .string (mkT name), .pointer tq, .pointer vq, .slice no nn nc, .slice eo en ec, .slice co cn cc] 49)) (h.fresh hb) (Nat.le_trans hB hb.size) (hP.below (hb.mono hB)) (StV.below hv (hb.mono hB)) hlen)
  obtain ⟨out, hout⟩ : ∃ out, out = lineV d cSelect ++ (casL d cases.toList ++ lineV d cEnd) := ⟨_, rfl⟩
  rw [← hout] at HG ⊢
  unfold Writes at HG ⊢
  have HB2 := Lib.hid (hb.mono hB)
  have HO2 : Hid (Others b w (w.alloc (.cells #[.int .i64 14, .int .i64 (at_ : Nat), .string (mkT name), .pointer tq, .pointer vq, .slice no nn nc, .slice eo en ec, .slice co cn cc] 49))) := Lib.hid (Others.of_new hb)
  clear h hB hP hv hlen hb hA hout
  go_enter Tryz.func97, Tryz.ntmps97
  go_wp2_with fail
  refine HG.out.mono ?_
  rintro e w3 ⟨rfl, h3, hb3, ho3⟩
  have H3 := Lib.hid h3
  have HB3 := Lib.hid (HB2.out.trans hb3)
  have HO3 := Lib.hid (HO2.out.trans ho3)
  clear h3 hb3 ho3
  go_wp2_with fail
  try simp only [Exit.inBlock, Exit.then]
  go_end0
  exact ⟨rfl, H3.out, HB3.out, HO3.out⟩
set_option maxRecDepth 100000 in
set_option maxHeartbeats 12800000 in
theorem stmt_other {B b d code : Nat} (hc : code = 0 ∨ 14 < code) {at_ : Nat} {tq vq no eo co : Option Addr} {nn nc en ec cn cc : Nat} {name : Lx.B} (l : List UInt8) (w : World) (h : PC B b l w) (hB : B ≤ w.heap.size) :
    Writes B b l [] w 97 #[.pointer (some ⟨b, 0, none⟩), .agg #[.int .i64 (code : Nat), .int .i64 (at_ : Nat), .string (mkT name), .pointer tq, .pointer vq, .slice no nn nc, .slice eo en ec, .slice co cn cc], .int .i64 (d : Nat)] := by
  unfold Writes
  rw [List.append_nil]
  have hb := fresh_alloc w #[.int .i64 (code : Nat), .int .i64 (at_ : Nat), .string (mkT name), .pointer tq, .pointer vq, .slice no nn nc, .slice eo en ec, .slice co cn cc] 49
  have H := Lib.hid (h.fresh hb)
  have HB2 := Lib.hid (hb.mono hB)
  have HO2 : Hid (Others b w (w.alloc (.cells #[.int .i64 (code : Nat), .int .i64 (at_ : Nat), .string (mkT name), .pointer tq, .pointer vq, .slice no nn nc, .slice eo en ec, .slice co cn cc] 49))) := Lib.hid (Others.of_new hb)

  have e1 : ((code : Int) == 1) = false := beq_eq_false_iff_ne.2 (by omega)
  have e2 : ((code : Int) == 2) = false := beq_eq_false_iff_ne.2 (by omega)
  have e3 : ((code : Int) == 3) = false := beq_eq_false_iff_ne.2 (by omega)
  have e4 : ((code : Int) == 4) = false := beq_eq_false_iff_ne.2 (by omega)
  have e5 : ((code : Int) == 5) = false := beq_eq_false_iff_ne.2 (by omega)
  have e6 : ((code : Int) == 6) = false := beq_eq_false_iff_ne.2 (by omega)
  have e7 : ((code : Int) == 7) = false := beq_eq_false_iff_ne.2 (by omega)
  have e8 : ((code : Int) == 8) = false := beq_eq_false_iff_ne.2 (by omega)
  have e9 : ((code : Int) == 9) = false := beq_eq_false_iff_ne.2 (by omega)
  have e10 : ((code : Int) == 10) = false := beq_eq_false_iff_ne.2 (by omega)
  have e11 : ((code : Int) == 11) = false := beq_eq_false_iff_ne.2 (by omega)
  have e12 : ((code : Int) == 12) = false := beq_eq_false_iff_ne.2 (by omega)
  have e13 : ((code : Int) == 13) = false := beq_eq_false_iff_ne.2 (by omega)
  have e14 : ((code : Int) == 14) = false := beq_eq_false_iff_ne.2 (by omega)
  clear h hb hB hc
  go_enter Tryz.func97, Tryz.ntmps97
  go_wp2_with fail
  try simp only [Exit.inBlock, Exit.then]
  go_end0
  exact ⟨rfl, H.out, HB2.out, HO2.out⟩
mutual
theorem st_all {B b : Nat} : ∀ s : St, StOk s → StW B b s
  | .mk code at_ name dst val thn els cases, hok => by
    obtain ⟨hokd, hokv, hokt, hoke, hokc⟩ := hok
    have hTh := stmts_any thn (sts_all (B := B) (b := b) thn hokt)
    have hEl := stmts_any els (sts_all (B := B) (b := b) els hoke)
    have hCa := cas_all (B := B) (b := b) cases hokc
    intro l w d tq vq no eo co nn nc en ec cn cc h hB hP hv hlen
    by_cases h1 : code = 1
    · subst h1
      have e : stV d (.mk 1 at_ name dst val thn els cases) = lineV d (name ++ (cLet ++ exV 1 val)) := by rw [stV]; rfl
      rw [e] at hlen ⊢
      exact stmt_let l w h hB hP hokv hv.2.1 hlen
    by_cases h2 : code = 2
    · subst h2
      have e : stV d (.mk 2 at_ name dst val thn els cases) = lineV d (name ++ (cSet ++ exV 1 val)) := by rw [stV]; rfl
      rw [e] at hlen ⊢
      exact stmt_set l w h hB hP hokv hv.2.1 hlen
    by_cases h3 : code = 3
    · subst h3
      have e : stV d (.mk 3 at_ name dst val thn els cases) = lineV d (sentV dst val) := by rw [stV]; rfl
      rw [e] at hlen ⊢
      exact stmt_send l w h hB hP hokd hokv hv.1 hv.2.1 hlen
    by_cases h4 : code = 4
    · subst h4
      have e : stV d (.mk 4 at_ name dst val thn els cases) = lineV d (cClose ++ (exV 1 val ++ cRp)) := by rw [stV]; rfl
      rw [e] at hlen ⊢
      exact stmt_close l w h hB hP hokv hv.2.1 hlen
    by_cases h5 : code = 5
    · subst h5
      have e : stV d (.mk 5 at_ name dst val thn els cases) = lineV d (cPrint ++ exV 1 val) := by rw [stV]; rfl
      rw [e] at hlen ⊢
      exact stmt_print l w h hB hP hokv hv.2.1 hlen
    by_cases h6 : code = 6
    · subst h6
      have e : stV d (.mk 6 at_ name dst val thn els cases) = lineV d (cSleep ++ exV 1 val) := by rw [stV]; rfl
      rw [e] at hlen ⊢
      exact stmt_sleep l w h hB hP hokv hv.2.1 hlen
    by_cases h7 : code = 7
    · subst h7
      have e : stV d (.mk 7 at_ name dst val thn els cases) = lineV d (cGo ++ exV 1 val) := by rw [stV]; rfl
      rw [e] at hlen ⊢
      exact stmt_go l w h hB hP hokv hv.2.1 hlen
    by_cases h8 : code = 8
    · subst h8
      have e : stV d (.mk 8 at_ name dst val thn els cases) = giveV d val := by rw [stV]; rfl
      rw [e] at hlen ⊢
      exact stmt_return l w h hB hP hokv hv.2.1 hlen
    by_cases h9 : code = 9
    · subst h9
      have e : stV d (.mk 9 at_ name dst val thn els cases) = lineV d cBreak := by rw [stV]; rfl
      rw [e] at hlen ⊢
      exact stmt_break l w h hB hlen
    by_cases h10 : code = 10
    · subst h10
      have e : stV d (.mk 10 at_ name dst val thn els cases) = lineV d cContinue := by rw [stV]; rfl
      rw [e] at hlen ⊢
      exact stmt_continue l w h hB hlen
    by_cases h11 : code = 11
    · subst h11
      have e : stV d (.mk 11 at_ name dst val thn els cases) = lineV d (exV 1 val) := by rw [stV]; rfl
      rw [e] at hlen ⊢
      exact stmt_do l w h hB hP hokv hv.2.1 hlen
    by_cases h12 : code = 12
    · subst h12
      have e : stV d (.mk 12 at_ name dst val thn els cases) = lineV d (cIf ++ (exV 1 val ++ cOpen)) ++ (stsV (d + 1) thn ++ ((if els.len = 0 then [] else lineV d cElse ++ stsV (d + 1) els) ++ lineV d cEnd)) := by rw [stV]; rfl
      rw [e] at hlen ⊢
      exact stmt_if hTh hokv hEl l w h hB hP hv hlen
    by_cases h13 : code = 13
    · subst h13
      have e : stV d (.mk 13 at_ name dst val thn els cases) = lineV d (cFor ++ (exV 1 val ++ cOpen)) ++ (stsV (d + 1) thn ++ lineV d cEnd) := by rw [stV]; rfl
      rw [e] at hlen ⊢
      exact stmt_for hTh hokv l w h hB hP hv hlen
    by_cases h14 : code = 14
    · subst h14
      have e : stV d (.mk 14 at_ name dst val thn els cases) = lineV d cSelect ++ (casL d cases.toList ++ lineV d cEnd) := by rw [stV, casV_list]; rfl
      rw [e] at hlen ⊢
      exact stmt_select hCa l w h hB hP hv hlen
    · have e : stV d (.mk code at_ name dst val thn els cases) = [] := by rw [stV, if_neg h1, if_neg h2, if_neg h3, if_neg h4, if_neg h5, if_neg h6, if_neg h7, if_neg h8, if_neg h9, if_neg h10, if_neg h11, if_neg h12, if_neg h13, if_neg h14]
      rw [e]
      exact stmt_other (by omega) l w h hB
theorem sts_all {B b : Nat} : ∀ xs : Sts, StsOk xs → ∀ x ∈ xs.toList, StW B b x
  | .nil, _, x, hx => by cases hx
  | .cons y ys, h, x, hx => by
    rcases List.mem_cons.1 hx with e | e
    · rw [e]; exact st_all y h.1
    · exact sts_all ys h.2 x e
theorem ca_all {B b : Nat} : ∀ c : Ca, CaOk c → CaW B b c
  | .mk _ _ _ _ _ body, h => ⟨h.1, h.2.1, stmts_any body (sts_all body h.2.2)⟩
theorem cas_all {B b : Nat} : ∀ xs : Cas, CasOk xs → ∀ x ∈ xs.toList, CaW B b x
  | .nil, _, x, hx => by cases hx
  | .cons y ys, h, x, hx => by
    rcases List.mem_cons.1 hx with e | e
    · rw [e]; exact ca_all y h.1
    · exact cas_all ys h.2 x e
end
theorem stsW_all {B b : Nat} (xs : Sts) (h : StsOk xs) : StsW B b xs := stmts_any xs (sts_all xs h)
end Go.Proofs.YtgonbmcojjcabaaGreatDoor

namespace Go.Proofs.YtgonbmcojjcabaaGreatDoor
open Go.RowKit Lx Tr
variable {w w' : World}

def cFunc : Lx.B := [102, 117, 110, 99, 32]
def paV (p : Pa) : Lx.B := p.name ++ ([32] ++ kindB p.kind)
def parL : Bool → List Pa → Lx.B
  | _, [] => []
  | f, x :: xs => (if f then [] else [44, 32]) ++ (paV x ++ parL false xs)
theorem parL_snoc : ∀ (l : List Pa) (f : Bool) (x : Pa), parL f (l ++ [x]) = parL f l ++ ((if f = true ∧ l = [] then [] else [44, 32]) ++ paV x)
  | [], f, x => by
    show (if f then [] else [44, 32]) ++ (paV x ++ []) = [] ++ _
    cases f <;> simp
  | y :: l, f, x => by
    show (if f then [] else [44, 32]) ++ (paV y ++ parL false (l ++ [x])) = ((if f then [] else [44, 32]) ++ (paV y ++ parL false l)) ++ _
    rw [parL_snoc l false x, if_neg (show ¬ (false = true ∧ l = []) from fun e => by cases e.1), if_neg (show ¬ (f = true ∧ y :: l = []) from fun e => by cases e.2)]
    simp only [List.append_assoc]
theorem parL_le : ∀ (l : List Pa) (k : Nat) (f : Bool), (parL f (l.take k)).length ≤ (parL f l).length
  | [], k, f => by simp [parL]
  | x :: xs, 0, f => Nat.zero_le _
  | x :: xs, k + 1, f => by
    show ((if f then [] else [44, 32]) ++ (paV x ++ parL false (xs.take k))).length ≤ ((if f then [] else [44, 32]) ++ (paV x ++ parL false xs)).length
    have := parL_le xs k false
    simp only [List.length_append]
    omega
/-- A function as it is written. -/
def fuV (g : Fu) : Lx.B := (cFunc ++ (g.name ++ [40])) ++ (parL true g.params ++ ([41, 32] ++ ((if g.kind = 0 then [] else kindB g.kind ++ [32]) ++ ([123, 10] ++ (stsV 1 g.body ++ lineV 0 cEnd)))))

set_option maxRecDepth 100000 in
set_option maxHeartbeats 25600000 in
theorem pfunction_any {B b : Nat} {g : Fu} {po bo : Option Addr} {pc bn bc : Nat} (hok : StsOk g.body) (l : List UInt8) (w : World) (h : PC B b l w) (hB : B ≤ w.heap.size) (hP : PEnv B w) (hpar : PaRow w (fun k => k < B) (.slice po g.params.length pc) g.params) (hbl : SlAt (fun k => k < B) (.slice bo bn bc) g.body.len) (hbi : ∀ g' n' cap, Value.slice bo bn bc = .slice (some ⟨g', 0, none⟩) n' cap → StsIn w (fun k => k < B) g' 0 g.body) (hlen : l.length + (fuV g).length ≤ 1000000) :
    Writes B b l (fuV g) w 36 #[.pointer (some ⟨b, 0, none⟩), .agg #[.string (mkT g.name), .int .i64 (g.at_ : Nat), .slice po g.params.length pc, .int .i64 (g.kind : Nat), .slice bo bn bc]] := by
  unfold Writes
  have hbw := fresh_alloc w #[.string (mkT g.name), .int .i64 (g.at_ : Nat), .slice po g.params.length pc, .int .i64 (g.kind : Nat), .slice bo bn bc] 45
  have hblt := h.1.lt
  have HL : Hid (l.length + ((cFunc ++ (g.name ++ [40])).length + ((parL true g.params).length + (2 + ((if g.kind = 0 then [] else kindB g.kind ++ [32]).length + (2 + ((stsV 1 g.body).length + (lineV 0 cEnd).length)))))) ≤ 1000000) := Lib.hid (by
    unfold fuV at hlen
    simp only [List.length_append, List.length_cons, List.length_nil] at hlen ⊢
    omega)
  have hn0 : g.params.length ≤ 9223372036854775807 := by
    rcases hpar with ⟨_, e2⟩ | ⟨g', cap, _, h1, h2, _⟩
    · rw [e2]; exact Nat.zero_le _
    · unfold maxLen at h2; omega
  have HB := Lib.hid hB
  have HP := Lib.hid hP
  have HG : Hid (∀ k x, g.params[k]? = some x → ∃ g', po = some ⟨g', 0, none⟩ ∧ g' < B ∧ w.cell? ⟨g', k * 3, none⟩ = some (.string (mkT x.name)) ∧ w.cell? ⟨g', k * 3 + 1, none⟩ = some (.int .i64 (x.kind : Nat)) ∧ w.cell? ⟨g', k * 3 + 2, none⟩ = some (.int .i64 (x.at_ : Nat))) := Lib.hid fun k x hx => by
    rcases hpar with ⟨_, e2⟩ | ⟨g', cap, e, _, _, hg, _, h6⟩
    · rw [e2] at hx; cases hx
    · injection e with e1 _ _
      exact ⟨g', e1, hg, h6 k x hx⟩
  have HST : Hid (∀ V l', PC B b l' V → Below B w V → l'.length + (stsV 1 g.body).length ≤ 1000000 → Writes B b l' (stsV 1 g.body) V 67 #[.pointer (some ⟨b, 0, none⟩), .slice bo bn bc, .int .i64 ((1 : Nat) : Int)]) := Lib.hid fun V l' h1 h2 h3 =>
    stsW_all g.body hok l' V 1 bo bn bc h1 (Nat.le_trans hB h2.size) (hP.below h2) hbl (fun g' n' cap' e => StsIn.keeps (Keeps.of_below (S := fun k => B ≤ k) h2 (fun _ _ e => e)) (fun b h1 h2 => by have h3 : b < B := h1; have h4 : B ≤ b := h2; omega) g' (hbl.mem e) 0 g.body (hbi g' n' cap' e)) h3
  have HB1 := Lib.hid (hbw.mono hB)
  have HO1 : Hid (Others b w (w.alloc (.cells #[.string (mkT g.name), .int .i64 (g.at_ : Nat), .slice po g.params.length pc, .int .i64 (g.kind : Nat), .slice bo bn bc] 45))) := Lib.hid (Others.of_new hbw)
  have HNE : Hid (w.heap.size ≠ b) := Lib.hid (by omega)
  have HH1 : Hid ((w.alloc (.cells #[.string (mkT g.name), .int .i64 (g.at_ : Nat), .slice po g.params.length pc, .int .i64 (g.kind : Nat), .slice bo bn bc] 45)).heap[w.heap.size]? = some (Obj.cells #[.string (mkT g.name), .int .i64 (g.at_ : Nat), .slice po g.params.length pc, .int .i64 (g.kind : Nat), .slice bo bn bc] 45 (0, 0))) := Lib.hid (heap_alloc_new w _)
  have hcat : catV [mkT cFunc, mkT g.name, mkT [40]] = (cFunc ++ (g.name ++ [40])) := catV3 _ _ _
  have HC1 := Lib.hid (put_new B b l [mkT cFunc, mkT g.name, mkT [40]] (w.alloc (.cells #[.string (mkT g.name), .int .i64 (g.at_ : Nat), .slice po g.params.length pc, .int .i64 (g.kind : Nat), .slice bo bn bc] 45)) (h.fresh hbw) (Nat.le_trans hB hbw.size) (by have := HL.out; rw [hcat]; omega) (by simp))
  rw [hcat, alloc_size w] at HC1
  clear h hB hP hpar hbl hbi hlen hbw hblt hok hcat
  go_enter Tryz.func36, Tryz.ntmps36
  go_wp2_with fail
  refine HC1.out.mono ?_
  rintro e w2 ⟨rfl, h2, hb2, ho2⟩
  have H2 := Lib.hid h2
  have HB2 := Lib.hid (HB1.out.trans hb2)
  have HO2 := Lib.hid (HO1.out.trans ho2)
  have HH2 := Lib.hid (ho2.heap HNE.out (by decide) HH1.out)
  clear h2 hb2 ho2
  have d2 : w2.cell? ⟨w.heap.size, 2, none⟩ = some (.slice po g.params.length pc) := by rw [Lib.cell_of_heap HH2.out]; rfl
  go_wp2_with fail
  clear d2
  go_loopw [14, 4, 5] (fun i _ _ wr => ∃ k : Nat, k ≤ g.params.length ∧ i = .int .i64 k ∧ PC B b (l ++ ((cFunc ++ (g.name ++ [40])) ++ parL true (g.params.take k))) wr ∧ Below B w wr ∧ Others b w wr ∧ wr.heap[w.heap.size]? = some (Obj.cells #[.string (mkT g.name), .int .i64 (g.at_ : Nat), .slice po g.params.length pc, .int .i64 (g.kind : Nat), .slice bo bn bc] 45 (0, 0))) (fun i _ _ _ => g.params.length - (intOf i).toNat)
  case atStart => exact ⟨0, Nat.zero_le _, rfl, by rw [List.take_zero]; show PC B b (l ++ ((cFunc ++ (g.name ++ [40])) ++ [])) w2; rw [List.append_nil]; exact H2.out, HB2.out, HO2.out, HH2.out⟩
  case round =>
    obtain ⟨k, hk, rfl, hp, hb, ho, hh⟩ := hrel
    have HHF := Lib.hid hh
    have HPP := Lib.hid hp
    have HBL := Lib.hid hb
    have HO := Lib.hid ho
    clear hp hb ho hh
    by_cases hlt : k < g.params.length
    · obtain ⟨p, hkx⟩ : ∃ x, g.params[k]? = some x := ⟨_, List.getElem?_eq_getElem hlt⟩
      obtain ⟨g', rfl, hg, c0, c1, c2⟩ := HG.out k p hkx
      have hki : (k : Int) < (g.params.length : Int) := by omega
      have hkii : (0 : Int) ≤ (k : Int) ∧ (k : Int) < (g.params.length : Int) := by omega
      have hw : IntKind.i64.wrap ((k : Int) + 1) = (k : Int) + 1 := IntWalk.i64_in _ (by omega)
      have hAT : parL true (g.params.take (k + 1)) = parL true (g.params.take k) ++ ((if k = 0 then [] else [44, 32]) ++ paV p) := by
        rw [List.take_add_one, hkx, Option.toList_some, parL_snoc]
        by_cases hk0 : k = 0
        · rw [if_pos hk0, if_pos ⟨rfl, by rw [hk0, List.take_zero]⟩]
        · rw [if_neg hk0, if_neg (fun e => hk0 (by have h7 := congrArg List.length e.2; rw [List.length_take] at h7; have h8 : min k g.params.length = 0 := h7; omega))]
      have hle := parL_le g.params (k + 1) true
      rw [hAT, List.length_append, List.length_append] at hle
      rw [← HBL.out.cell (p := ⟨g', k * 3, none⟩) hg] at c0
      rw [← HBL.out.cell (p := ⟨g', k * 3 + 1, none⟩) hg] at c1
      rw [← HBL.out.cell (p := ⟨g', k * 3 + 2, none⟩) hg] at c2
      have HAT := Lib.hid hAT
      have HLE : Hid (l.length + ((cFunc ++ (g.name ++ [40])).length + ((parL true (g.params.take k)).length + ((if k = 0 then [] else [44, 32] : List UInt8).length + (paV p).length))) ≤ 1000000) := Lib.hid (by have := HL.out; omega)
      have hbc := fresh_alloc wr #[.string (mkT p.name), .int .i64 (p.kind : Nat), .int .i64 (p.at_ : Nat)] 85
      have hsz := Nat.le_trans HB.out HBL.out.size
      have hbB := HBL.out.trans (hbc.mono hsz)
      have hbltr := HPP.out.1.lt
      have HBc := Lib.hid hbB
      have HOc : Hid (Others b w (wr.alloc (.cells #[.string (mkT p.name), .int .i64 (p.kind : Nat), .int .i64 (p.at_ : Nat)] 85))) := Lib.hid (HO.out.trans (Others.of_new hbc))
      have HHc : Hid ((wr.alloc (.cells #[.string (mkT p.name), .int .i64 (p.kind : Nat), .int .i64 (p.at_ : Nat)] 85)).heap[wr.heap.size]? = some (Obj.cells #[.string (mkT p.name), .int .i64 (p.kind : Nat), .int .i64 (p.at_ : Nat)] 85 (0, 0))) := Lib.hid (heap_alloc_new wr _)
      have HHFc : Hid ((wr.alloc (.cells #[.string (mkT p.name), .int .i64 (p.kind : Nat), .int .i64 (p.at_ : Nat)] 85)).heap[w.heap.size]? = some (Obj.cells #[.string (mkT g.name), .int .i64 (g.at_ : Nat), .slice (some ⟨g', 0, none⟩) g.params.length pc, .int .i64 (g.kind : Nat), .slice bo bn bc] 45 (0, 0))) := Lib.hid (by rw [Below.heap_alloc _ _ _ (Array.getElem?_eq_some_iff.1 HHF.out).1]; exact HHF.out)
      have HNEc : Hid (wr.heap.size ≠ b) := Lib.hid (by omega)
      have HPc : Hid (PC B b (l ++ ((cFunc ++ (g.name ++ [40])) ++ parL true (g.params.take k))) (wr.alloc (.cells #[.string (mkT p.name), .int .i64 (p.kind : Nat), .int .i64 (p.at_ : Nat)] 85))) := Lib.hid (HPP.out.fresh hbc)
      have HK0 : Hid (decide ((0 : Int) < (k : Int)) = decide (k ≠ 0)) := Lib.hid (by by_cases hk0 : k = 0 <;> simp [hk0]; omega)
      -- what the last region of a round does, from any world
      have HEND : Hid (∀ V : World, PC B b (l ++ ((cFunc ++ (g.name ++ [40])) ++ (parL true (g.params.take k) ++ (if k = 0 then [] else [44, 32])))) V → Below B w V →
          Calls Tryz.prog 65 #[.pointer (some ⟨b, 0, none⟩), .slice (some ⟨V.heap.size, 0, none⟩) [mkT p.name, mkT [32], mkT (kindB p.kind)].length [mkT p.name, mkT [32], mkT (kindB p.kind)].length] (V.alloc (.cells ([mkT p.name, mkT [32], mkT (kindB p.kind)].map Value.string).toArray 9)) fun e w' => e = .returned (.tuple #[]) ∧ PC B b (l ++ ((cFunc ++ (g.name ++ [40])) ++ parL true (g.params.take (k + 1)))) w' ∧ Below B V w' ∧ Others b V w') := Lib.hid fun V h1 h2 => by
        refine (put_new B b _ [mkT p.name, mkT [32], mkT (kindB p.kind)] V h1 (Nat.le_trans HB.out h2.size) (by have := HLE.out; rw [catV3]; unfold paV at this; simp only [List.length_append] at this ⊢; omega) (by simp)).mono ?_
        rintro e w' ⟨rfl, a1, a2, a3⟩
        refine ⟨rfl, ?_, a2, a3⟩
        rw [catV3] at a1
        have e : l ++ ((cFunc ++ (g.name ++ [40])) ++ parL true (g.params.take (k + 1))) = l ++ ((cFunc ++ (g.name ++ [40])) ++ (parL true (g.params.take k) ++ (if k = 0 then [] else [44, 32]))) ++ (p.name ++ ([32] ++ kindB p.kind)) := by
          rw [HAT.out]; unfold paV; simp only [List.append_assoc]
        rw [e]; exact a1
      clear hkx hg hAT hle hbc hsz hbB hbltr HAT
      by_cases hk0 : k = 0
      · have hgt : ¬ (0 : Int) < (k : Int) := by omega
        have hPc' : PC B b (l ++ ((cFunc ++ (g.name ++ [40])) ++ (parL true (g.params.take k) ++ (if k = 0 then [] else [44, 32])))) (wr.alloc (.cells #[.string (mkT p.name), .int .i64 (p.kind : Nat), .int .i64 (p.at_ : Nat)] 85)) := by rw [if_pos hk0, List.append_nil]; exact HPc.out
        have HPc' := Lib.hid hPc'
        clear hk0 hPc'
        go_wp2_with fail
        have HB8 : Hid (Below B w (wr.alloc (.cells #[.string (mkT p.name), .int .i64 (p.kind : Nat), .int .i64 (p.at_ : Nat)] 85)).drew) := Lib.hid (HBc.out.trans (Below.drew (Below.refl _ _)))
        have HO8 : Hid (Others b w (wr.alloc (.cells #[.string (mkT p.name), .int .i64 (p.kind : Nat), .int .i64 (p.at_ : Nat)] 85)).drew) := Lib.hid (HOc.out.trans (Others.of_new (Below.drew (Below.refl _ _))))
        have HH8 : Hid ((wr.alloc (.cells #[.string (mkT p.name), .int .i64 (p.kind : Nat), .int .i64 (p.at_ : Nat)] 85)).drew.heap[wr.heap.size]? = some (Obj.cells #[.string (mkT p.name), .int .i64 (p.kind : Nat), .int .i64 (p.at_ : Nat)] 85 (0, 0))) := Lib.hid HHc.out
        have HHF8 : Hid ((wr.alloc (.cells #[.string (mkT p.name), .int .i64 (p.kind : Nat), .int .i64 (p.at_ : Nat)] 85)).drew.heap[w.heap.size]? = some (Obj.cells #[.string (mkT g.name), .int .i64 (g.at_ : Nat), .slice (some ⟨g', 0, none⟩) g.params.length pc, .int .i64 (g.kind : Nat), .slice bo bn bc] 45 (0, 0))) := Lib.hid HHFc.out
        have HLT8 : Hid (wr.heap.size < (wr.alloc (.cells #[.string (mkT p.name), .int .i64 (p.kind : Nat), .int .i64 (p.at_ : Nat)] 85)).drew.heap.size) := Lib.hid (Array.getElem?_eq_some_iff.1 HH8.out).1
        have HCL : Hid (∀ V : World, V.heap[wr.heap.size]? = some (Obj.cells #[.string (mkT p.name), .int .i64 (p.kind : Nat), .int .i64 (p.at_ : Nat)] 85 (0, 0)) → V.cell? ⟨wr.heap.size, 0, none⟩ = some (.string (mkT p.name)) ∧ V.cell? ⟨wr.heap.size, 1, none⟩ = some (.int .i64 (p.kind : Nat))) := Lib.hid fun V hV => ⟨by rw [Lib.cell_of_heap hV]; rfl, by rw [Lib.cell_of_heap hV]; rfl⟩
        have HKT := Lib.hid (kindText_any p.kind (wr.alloc (.cells #[.string (mkT p.name), .int .i64 (p.kind : Nat), .int .i64 (p.at_ : Nat)] 85)).drew (HP.out.below HB8.out).kinds)
        have HE := Lib.hid (HEND.out (wr.alloc (.cells #[.string (mkT p.name), .int .i64 (p.kind : Nat), .int .i64 (p.at_ : Nat)] 85)).drew (HPc'.out.fresh (Below.drew (Below.refl _ _))) HB8.out)
        refine wp_region_held_drew (S := (fun W' : World => W'.cell? ⟨wr.heap.size, 0, none⟩ = some (.string (mkT p.name)) ∧ W'.cell? ⟨wr.heap.size, 1, none⟩ = some (.int .i64 (p.kind : Nat)))) (by kernel_rfl) (HCL.out _ HH8.out) (fun hHeld => ?_)
        generalize (wr.alloc (.cells #[.string (mkT p.name), .int .i64 (p.kind : Nat), .int .i64 (p.at_ : Nat)] 85)).drew = V8 at *
        refine wpAnyH_take (i := 0) (oi := { dst := some 24, op := _, type := _, pos := _, after := _, guard := _ }) (v := .pointer (some ⟨b, 0, none⟩)) rfl (by kernel_rfl) (by kernel_rfl) (by kernel_rfl) (fun _ _ _ h => h) (Or.inl ⟨by rfl, ?_⟩) hHeld ?_
        · intro W9 hSW
          (try dsimp only at hSW)
          go_simp
        try simp only [Act.put, List.setIfInBounds_toArray, List.set_cons_zero, List.set_cons_succ]
        refine wpAnyH_take (i := 1) (oi := { dst := some 25, op := _, type := _, pos := _, after := _, guard := _ }) (v := .pointer (some ⟨wr.heap.size, 0, none⟩)) rfl (by kernel_rfl) (by kernel_rfl) (by kernel_rfl) (fun _ _ _ h => h) (Or.inl ⟨by rfl, ?_⟩) hHeld ?_
        · intro W9 hSW
          (try dsimp only at hSW)
          go_simp
        try simp only [Act.put, List.setIfInBounds_toArray, List.set_cons_zero, List.set_cons_succ]
        refine wpAnyH_take (i := 2) (oi := { dst := some 26, op := _, type := _, pos := _, after := _, guard := _ }) (v := .string (mkT p.name)) rfl (by kernel_rfl) (by kernel_rfl) (by kernel_rfl) (fun _ _ _ h => h) (Or.inl ⟨by rfl, ?_⟩) hHeld ?_
        · intro W9 hSW
          (try dsimp only at hSW)
          go_simp
        try simp only [Act.put, List.setIfInBounds_toArray, List.set_cons_zero, List.set_cons_succ]
        refine wpAnyH_take (i := 3) (oi := { dst := some 27, op := _, type := _, pos := _, after := _, guard := _ }) (v := .pointer (some ⟨wr.heap.size, 1, none⟩)) rfl (by kernel_rfl) (by kernel_rfl) (by kernel_rfl) (fun _ _ _ h => h) (Or.inl ⟨by rfl, ?_⟩) hHeld ?_
        · intro W9 hSW
          (try dsimp only at hSW)
          go_simp
        try simp only [Act.put, List.setIfInBounds_toArray, List.set_cons_zero, List.set_cons_succ]
        refine wpAnyH_take (i := 4) (oi := { dst := some 28, op := _, type := _, pos := _, after := _, guard := _ }) (v := .int .i64 (p.kind : Nat)) rfl (by kernel_rfl) (by kernel_rfl) (by kernel_rfl) (fun _ _ _ h => h) (Or.inl ⟨by rfl, ?_⟩) hHeld ?_
        · intro W9 hSW
          (try dsimp only at hSW)
          go_simp
        try simp only [Act.put, List.setIfInBounds_toArray, List.set_cons_zero, List.set_cons_succ]
        refine wpAnyH_ready (rs := [5]) (by kernel_rfl) (by simp) ?_
        refine AllReadyH.cons (o := { dst := some 29, op := _, type := _, pos := _, after := _, guard := _ }) rfl (fun K hK => ?_) AllReadyH.nil
        go_simp
        go_at_call 66
        refine HKT.out.mono ?_
        rintro e w9 ⟨rfl, rfl⟩
        refine hK.out _ _ hHeld (fun hHeld => ?_)
        clear hK K
        refine wpAnyH_ready (rs := [6]) (by kernel_rfl) (by simp) ?_
        refine AllReadyH.cons (o := { dst := some 30, op := _, type := _, pos := _, after := _, guard := _ }) rfl (fun K hK => ?_) AllReadyH.nil
        go_simp
        refine hK.out _ _ (HCL.out _ (by rw [Below.heap_alloc _ _ _ HLT8.out]; exact HH8.out)) (fun hHeld => ?_)
        clear hK K
        refine wpAnyH_ready (rs := [7]) (by kernel_rfl) (by simp) ?_
        refine AllReadyH.cons (o := { dst := some 31, op := _, type := _, pos := _, after := _, guard := _ }) rfl (fun K hK => ?_) AllReadyH.nil
        go_simp
        go_at_call 65
        refine HE.out.mono ?_
        rintro e w9 ⟨rfl, h9, hb9, ho9⟩
        have H9 := Lib.hid h9
        have HB9 := Lib.hid (HB8.out.trans hb9)
        have HO9 := Lib.hid (HO8.out.trans ho9)
        have HH9 := Lib.hid (ho9.heap HNEc.out (by decide) HH8.out)
        have HHF9 := Lib.hid (ho9.heap HNE.out (by decide) HHF8.out)
        clear h9 hb9 ho9
        refine hK.out _ _ (HCL.out _ HH9.out) (fun hHeld => ?_)
        clear hK K
        refine wpAnyH_done (by kernel_rfl) ?_ _
        go_wp2_with fail
        exact ⟨⟨k + 1, by omega, by simp, H9.out, HB9.out, HO9.out, HHF9.out⟩, by simp [intOf]; omega⟩
      · have hgt : (0 : Int) < (k : Int) := by omega
        have HPUT := Lib.hid (put_new B b _ [mkT [44, 32]] (wr.alloc (.cells #[.string (mkT p.name), .int .i64 (p.kind : Nat), .int .i64 (p.at_ : Nat)] 85)) HPc.out (Nat.le_trans HB.out HBc.out.size) (by have := HLE.out; rw [if_neg hk0] at this; rw [catV1]; simp only [List.length_append, List.length_cons, List.length_nil] at this ⊢; omega) (by simp))
        rw [catV1, alloc_size wr] at HPUT
        have HK := Lib.hid hk0
        clear hk0
        go_wp2_with fail
        refine HPUT.out.mono ?_
        rintro e w4 ⟨rfl, h4, hb4, ho4⟩
        have H4 : Hid (PC B b (l ++ ((cFunc ++ (g.name ++ [40])) ++ (parL true (g.params.take k) ++ (if k = 0 then [] else [44, 32])))) w4) := Lib.hid (by
          rw [if_neg HK.out]
          simp only [List.append_assoc] at h4 ⊢
          exact h4)
        have HB4 := Lib.hid (HBc.out.trans hb4)
        have HO4 := Lib.hid (HOc.out.trans ho4)
        have HH4 := Lib.hid (ho4.heap HNEc.out (by decide) HHc.out)
        have HHF4 := Lib.hid (ho4.heap HNE.out (by decide) HHFc.out)
        clear h4 hb4 ho4
        go_wp2_with fail
        have HB8 : Hid (Below B w w4.drew) := Lib.hid (HB4.out.trans (Below.drew (Below.refl _ _)))
        have HO8 : Hid (Others b w w4.drew) := Lib.hid (HO4.out.trans (Others.of_new (Below.drew (Below.refl _ _))))
        have HH8 : Hid (w4.drew.heap[wr.heap.size]? = some (Obj.cells #[.string (mkT p.name), .int .i64 (p.kind : Nat), .int .i64 (p.at_ : Nat)] 85 (0, 0))) := Lib.hid HH4.out
        have HHF8 : Hid (w4.drew.heap[w.heap.size]? = some (Obj.cells #[.string (mkT g.name), .int .i64 (g.at_ : Nat), .slice (some ⟨g', 0, none⟩) g.params.length pc, .int .i64 (g.kind : Nat), .slice bo bn bc] 45 (0, 0))) := Lib.hid HHF4.out
        have HLT8 : Hid (wr.heap.size < w4.drew.heap.size) := Lib.hid (Array.getElem?_eq_some_iff.1 HH8.out).1
        have HCL : Hid (∀ V : World, V.heap[wr.heap.size]? = some (Obj.cells #[.string (mkT p.name), .int .i64 (p.kind : Nat), .int .i64 (p.at_ : Nat)] 85 (0, 0)) → V.cell? ⟨wr.heap.size, 0, none⟩ = some (.string (mkT p.name)) ∧ V.cell? ⟨wr.heap.size, 1, none⟩ = some (.int .i64 (p.kind : Nat))) := Lib.hid fun V hV => ⟨by rw [Lib.cell_of_heap hV]; rfl, by rw [Lib.cell_of_heap hV]; rfl⟩
        have HKT := Lib.hid (kindText_any p.kind w4.drew (HP.out.below HB8.out).kinds)
        have HE := Lib.hid (HEND.out w4.drew (H4.out.fresh (Below.drew (Below.refl _ _))) HB8.out)
        refine wp_region_held_drew (S := (fun W' : World => W'.cell? ⟨wr.heap.size, 0, none⟩ = some (.string (mkT p.name)) ∧ W'.cell? ⟨wr.heap.size, 1, none⟩ = some (.int .i64 (p.kind : Nat)))) (by kernel_rfl) (HCL.out _ HH8.out) (fun hHeld => ?_)
        generalize w4.drew = V8 at *
        refine wpAnyH_take (i := 0) (oi := { dst := some 24, op := _, type := _, pos := _, after := _, guard := _ }) (v := .pointer (some ⟨b, 0, none⟩)) rfl (by kernel_rfl) (by kernel_rfl) (by kernel_rfl) (fun _ _ _ h => h) (Or.inl ⟨by rfl, ?_⟩) hHeld ?_
        · intro W9 hSW
          (try dsimp only at hSW)
          go_simp
        try simp only [Act.put, List.setIfInBounds_toArray, List.set_cons_zero, List.set_cons_succ]
        refine wpAnyH_take (i := 1) (oi := { dst := some 25, op := _, type := _, pos := _, after := _, guard := _ }) (v := .pointer (some ⟨wr.heap.size, 0, none⟩)) rfl (by kernel_rfl) (by kernel_rfl) (by kernel_rfl) (fun _ _ _ h => h) (Or.inl ⟨by rfl, ?_⟩) hHeld ?_
        · intro W9 hSW
          (try dsimp only at hSW)
          go_simp
        try simp only [Act.put, List.setIfInBounds_toArray, List.set_cons_zero, List.set_cons_succ]
        refine wpAnyH_take (i := 2) (oi := { dst := some 26, op := _, type := _, pos := _, after := _, guard := _ }) (v := .string (mkT p.name)) rfl (by kernel_rfl) (by kernel_rfl) (by kernel_rfl) (fun _ _ _ h => h) (Or.inl ⟨by rfl, ?_⟩) hHeld ?_
        · intro W9 hSW
          (try dsimp only at hSW)
          go_simp
        try simp only [Act.put, List.setIfInBounds_toArray, List.set_cons_zero, List.set_cons_succ]
        refine wpAnyH_take (i := 3) (oi := { dst := some 27, op := _, type := _, pos := _, after := _, guard := _ }) (v := .pointer (some ⟨wr.heap.size, 1, none⟩)) rfl (by kernel_rfl) (by kernel_rfl) (by kernel_rfl) (fun _ _ _ h => h) (Or.inl ⟨by rfl, ?_⟩) hHeld ?_
        · intro W9 hSW
          (try dsimp only at hSW)
          go_simp
        try simp only [Act.put, List.setIfInBounds_toArray, List.set_cons_zero, List.set_cons_succ]
        refine wpAnyH_take (i := 4) (oi := { dst := some 28, op := _, type := _, pos := _, after := _, guard := _ }) (v := .int .i64 (p.kind : Nat)) rfl (by kernel_rfl) (by kernel_rfl) (by kernel_rfl) (fun _ _ _ h => h) (Or.inl ⟨by rfl, ?_⟩) hHeld ?_
        · intro W9 hSW
          (try dsimp only at hSW)
          go_simp
        try simp only [Act.put, List.setIfInBounds_toArray, List.set_cons_zero, List.set_cons_succ]
        refine wpAnyH_ready (rs := [5]) (by kernel_rfl) (by simp) ?_
        refine AllReadyH.cons (o := { dst := some 29, op := _, type := _, pos := _, after := _, guard := _ }) rfl (fun K hK => ?_) AllReadyH.nil
        go_simp
        go_at_call 66
        refine HKT.out.mono ?_
        rintro e w9 ⟨rfl, rfl⟩
        refine hK.out _ _ hHeld (fun hHeld => ?_)
        clear hK K
        refine wpAnyH_ready (rs := [6]) (by kernel_rfl) (by simp) ?_
        refine AllReadyH.cons (o := { dst := some 30, op := _, type := _, pos := _, after := _, guard := _ }) rfl (fun K hK => ?_) AllReadyH.nil
        go_simp
        refine hK.out _ _ (HCL.out _ (by rw [Below.heap_alloc _ _ _ HLT8.out]; exact HH8.out)) (fun hHeld => ?_)
        clear hK K
        refine wpAnyH_ready (rs := [7]) (by kernel_rfl) (by simp) ?_
        refine AllReadyH.cons (o := { dst := some 31, op := _, type := _, pos := _, after := _, guard := _ }) rfl (fun K hK => ?_) AllReadyH.nil
        go_simp
        go_at_call 65
        refine HE.out.mono ?_
        rintro e w9 ⟨rfl, h9, hb9, ho9⟩
        have H9 := Lib.hid h9
        have HB9 := Lib.hid (HB8.out.trans hb9)
        have HO9 := Lib.hid (HO8.out.trans ho9)
        have HH9 := Lib.hid (ho9.heap HNEc.out (by decide) HH8.out)
        have HHF9 := Lib.hid (ho9.heap HNE.out (by decide) HHF8.out)
        clear h9 hb9 ho9
        refine hK.out _ _ (HCL.out _ HH9.out) (fun hHeld => ?_)
        clear hK K
        refine wpAnyH_done (by kernel_rfl) ?_ _
        go_wp2_with fail
        exact ⟨⟨k + 1, by omega, by simp, H9.out, HB9.out, HO9.out, HHF9.out⟩, by simp [intOf]; omega⟩
    · have hki : ¬ (k : Int) < (g.params.length : Int) := by omega
      have hkk : k = g.params.length := by omega
      have h1 := HPP.out
      rw [hkk, List.take_length] at h1
      have hr := Nat.le_trans HB.out HBL.out.size
      have HC5 := Lib.hid (put_new B b _ [mkT [41, 32]] wr h1 hr (by have := HL.out; rw [catV1]; simp only [List.length_append, List.length_cons, List.length_nil] at this ⊢; omega) (by simp))
      rw [catV1] at HC5
      have HH5 : Hid (wr.heap[w.heap.size]? = some (Obj.cells #[.string (mkT g.name), .int .i64 (g.at_ : Nat), .slice po g.params.length pc, .int .i64 (g.kind : Nat), .slice bo bn bc] 45 (0, 0))) := Lib.hid HHF.out
      have HB5 := Lib.hid HBL.out
      have HO5 := Lib.hid HO.out
      clear hkk h1 hr
      go_wp2_with fail
      refine HC5.out.mono ?_
      rintro e w6 ⟨rfl, h6, hb6, ho6⟩
      have H6 := Lib.hid h6
      have HB6 := Lib.hid (HB5.out.trans hb6)
      have HO6 := Lib.hid (HO5.out.trans ho6)
      have HH6 := Lib.hid (ho6.heap HNE.out (by decide) HH5.out)
      clear h6 hb6 ho6
      have d6 : w6.cell? ⟨w.heap.size, 3, none⟩ = some (.int .i64 (g.kind : Nat)) := by rw [Lib.cell_of_heap HH6.out]; rfl
      by_cases hk0 : g.kind = 0
      · have hz : ((g.kind : Int) == 0) = true := by rw [hk0]; rfl
        have HKZ := Lib.hid hk0
        clear hk0
        go_wp2_with fail
        clear d6 hz
        have hr7 := Nat.le_trans HB.out HB6.out.size
        have HC7 := Lib.hid (put_new B b _ [mkT [123, 10]] w6 H6.out hr7 (by have := HL.out; rw [catV1]; simp only [List.length_append, List.length_cons, List.length_nil] at this ⊢; rw [if_pos HKZ.out] at this; simp only [List.length_nil] at this; omega) (by simp))
        rw [catV1] at HC7
        clear hr7
        go_wp2_with fail
        refine HC7.out.mono ?_
        rintro e w7 ⟨rfl, h7, hb7, ho7⟩
        have H7 := Lib.hid h7
        have HB7 := Lib.hid (HB6.out.trans hb7)
        have HO7 := Lib.hid (HO6.out.trans ho7)
        have HH7 := Lib.hid (ho7.heap HNE.out (by decide) HH6.out)
        clear h7 hb7 ho7
        have d7 : w7.cell? ⟨w.heap.size, 4, none⟩ = some (.slice bo bn bc) := by rw [Lib.cell_of_heap HH7.out]; rfl
        have HS := Lib.hid (HST.out w7 _ H7.out HB7.out (by have := HL.out; simp only [List.length_append, List.length_cons, List.length_nil] at this ⊢; rw [if_pos HKZ.out] at this; simp only [List.length_nil] at this; omega))
        unfold Writes at HS
        rw [show ((1 : Nat) : Int) = 1 from rfl] at HS
        go_wp2_with fail
        refine HS.out.mono ?_
        rintro e w8 ⟨rfl, h8, hb8, ho8⟩
        have H8 := Lib.hid h8
        have HB8 := Lib.hid (HB7.out.trans (hb8.mono (Nat.le_refl _)))
        have HO8 := Lib.hid (HO7.out.trans ho8)
        clear h8 hb8 ho8 d7
        have hr9 := Nat.le_trans HB.out HB8.out.size
        have HC9 := Lib.hid (line_new B b 0 _ [mkT cEnd] w8 H8.out hr9 (by have := HL.out; rw [catV1]; simp only [List.length_append, List.length_cons, List.length_nil] at this ⊢; rw [if_pos HKZ.out] at this; simp only [List.length_nil] at this; omega) (by simp))
        rw [catV1, show ((0 : Nat) : Int) = 0 from rfl] at HC9
        clear hr9
        go_wp2_with fail
        refine HC9.out.mono ?_
        rintro e w9 ⟨rfl, h9, hb9, ho9⟩
        have H9 := Lib.hid h9
        have HB9 := Lib.hid (HB8.out.trans hb9)
        have HO9 := Lib.hid (HO8.out.trans ho9)
        clear h9 hb9 ho9
        go_wp2_with fail
        try simp only [Exit.inBlock, Exit.then]
        go_end0
        refine ⟨rfl, ?_, HB9.out, HO9.out⟩
        have hq := H9.out
        unfold fuV
        rw [if_pos HKZ.out]
        simp only [List.append_assoc, List.nil_append] at hq ⊢
        exact hq
      · have hz : ((g.kind : Int) == 0) = false := beq_eq_false_iff_ne.2 (by omega)
        have HKZ := Lib.hid hk0
        clear hk0
        have HKT := Lib.hid (kindText_any g.kind w6 (HP.out.below HB6.out).kinds)
        have hr6 := Nat.le_trans HB.out HB6.out.size
        have HC10 := Lib.hid (put_new B b _ [mkT (kindB g.kind), mkT [32]] w6 H6.out hr6 (by have := HL.out; rw [catV2]; rw [if_neg HKZ.out] at this; simp only [List.length_append, List.length_cons, List.length_nil] at this ⊢; omega) (by simp))
        rw [catV2] at HC10
        clear hr6
        go_wp2_with fail
        refine HKT.out.mono ?_
        rintro e w9 ⟨rfl, rfl⟩
        go_wp2_with fail
        refine HC10.out.mono ?_
        rintro e wk ⟨rfl, h10, hb10, ho10⟩
        have H10 := Lib.hid h10
        have HB10 := Lib.hid (HB6.out.trans hb10)
        have HO10 := Lib.hid (HO6.out.trans ho10)
        have HH10 := Lib.hid (ho10.heap HNE.out (by decide) HH6.out)
        clear h10 hb10 ho10 d6 hz
        have hr7 := Nat.le_trans HB.out HB10.out.size
        have HC7 := Lib.hid (put_new B b _ [mkT [123, 10]] wk H10.out hr7 (by have := HL.out; rw [catV1]; simp only [List.length_append, List.length_cons, List.length_nil] at this ⊢; rw [if_neg HKZ.out] at this; simp only [List.length_append, List.length_cons, List.length_nil] at this; omega) (by simp))
        rw [catV1] at HC7
        clear hr7
        go_wp2_with fail
        refine HC7.out.mono ?_
        rintro e w7 ⟨rfl, h7, hb7, ho7⟩
        have H7 := Lib.hid h7
        have HB7 := Lib.hid (HB10.out.trans hb7)
        have HO7 := Lib.hid (HO10.out.trans ho7)
        have HH7 := Lib.hid (ho7.heap HNE.out (by decide) HH10.out)
        clear h7 hb7 ho7
        have d7 : w7.cell? ⟨w.heap.size, 4, none⟩ = some (.slice bo bn bc) := by rw [Lib.cell_of_heap HH7.out]; rfl
        have HS := Lib.hid (HST.out w7 _ H7.out HB7.out (by have := HL.out; simp only [List.length_append, List.length_cons, List.length_nil] at this ⊢; rw [if_neg HKZ.out] at this; simp only [List.length_append, List.length_cons, List.length_nil] at this; omega))
        unfold Writes at HS
        rw [show ((1 : Nat) : Int) = 1 from rfl] at HS
        go_wp2_with fail
        refine HS.out.mono ?_
        rintro e w8 ⟨rfl, h8, hb8, ho8⟩
        have H8 := Lib.hid h8
        have HB8 := Lib.hid (HB7.out.trans (hb8.mono (Nat.le_refl _)))
        have HO8 := Lib.hid (HO7.out.trans ho8)
        clear h8 hb8 ho8 d7
        have hr9 := Nat.le_trans HB.out HB8.out.size
        have HC9 := Lib.hid (line_new B b 0 _ [mkT cEnd] w8 H8.out hr9 (by have := HL.out; rw [catV1]; simp only [List.length_append, List.length_cons, List.length_nil] at this ⊢; rw [if_neg HKZ.out] at this; simp only [List.length_append, List.length_cons, List.length_nil] at this; omega) (by simp))
        rw [catV1, show ((0 : Nat) : Int) = 0 from rfl] at HC9
        clear hr9
        go_wp2_with fail
        refine HC9.out.mono ?_
        rintro e w9 ⟨rfl, h9, hb9, ho9⟩
        have H9 := Lib.hid h9
        have HB9 := Lib.hid (HB8.out.trans hb9)
        have HO9 := Lib.hid (HO8.out.trans ho9)
        clear h9 hb9 ho9
        go_wp2_with fail
        try simp only [Exit.inBlock, Exit.then]
        go_end0
        refine ⟨rfl, ?_, HB9.out, HO9.out⟩
        have hq := H9.out
        unfold fuV
        rw [if_neg HKZ.out]
        simp only [List.append_assoc] at hq ⊢
        exact hq
end Go.Proofs.YtgonbmcojjcabaaGreatDoor

namespace Go.Proofs.YtgonbmcojjcabaaGreatDoor
open Go.RowKit Lx Tr
variable {w w' : World}

def cVar : Lx.B := [118, 97, 114, 32]
def glV (g : Gl) : Lx.B := lineV 0 (cVar ++ g.name)
/-- A program as it is written. -/
def printV (s : Src) : Lx.B := s.globals.flatMap glV ++ s.funcs.flatMap fuV
def SrcOk (s : Src) : Prop := ∀ g ∈ s.funcs, StsOk g.body
theorem flat_le {α : Type} (f : α → Lx.B) (l : List α) (k : Nat) : ((l.take k).flatMap f).length ≤ (l.flatMap f).length := by
  have h : l.flatMap f = (l.take k).flatMap f ++ (l.drop k).flatMap f := by rw [← List.flatMap_append, List.take_append_drop]
  rw [h, List.length_append]
  exact Nat.le_add_right _ _
theorem flat_take {α : Type} (f : α → Lx.B) {l : List α} {k : Nat} {x : α} (h : l[k]? = some x) : (l.take (k + 1)).flatMap f = (l.take k).flatMap f ++ f x := by
  rw [List.take_add_one, h, Option.toList_some, List.flatMap_append, List.flatMap_cons, List.flatMap_nil, List.append_nil]
theorem paRow_form {F : Nat → Prop} {v : Value} {l : List Pa} (h : PaRow w F v l) : ∃ o c, v = .slice o l.length c := by
  rcases h with ⟨e, e2⟩ | ⟨g, cap, e, _⟩
  · exact ⟨none, 0, by rw [e, e2]; rfl⟩
  · exact ⟨_, _, e⟩

set_option maxRecDepth 100000 in
set_option maxHeartbeats 25600000 in
theorem print_any {src : Src} {gv fv : Value} (w : World) (hs : SrcF w (fun k => k < w.heap.size) src gv fv) (hP : PEnv w.heap.size w) (hok : SrcOk src) (hlen : (printV src).length ≤ 1000000) :
    Tells w 14 #[.agg #[gv, fv]] (printV src) := by
  unfold Tells
  obtain ⟨go, gc, rfl⟩ : ∃ o c, gv = .slice o src.globals.length c := by
    rcases hs.1 with ⟨e, e2⟩ | ⟨g, cap, e, _⟩
    · exact ⟨none, 0, by rw [e, e2]; rfl⟩
    · exact ⟨_, _, e⟩
  obtain ⟨fo, fc, rfl⟩ : ∃ o c, fv = .slice o src.funcs.length c := by
    rcases hs.2 with ⟨e, e2⟩ | ⟨g, cap, e, _⟩
    · exact ⟨none, 0, by rw [e, e2]; rfl⟩
    · exact ⟨_, _, e⟩
  have hgn : src.globals.length ≤ 9223372036854775807 := by
    rcases hs.1 with ⟨_, e2⟩ | ⟨g, cap, _, h1, h2, _⟩
    · rw [e2]; exact Nat.zero_le _
    · unfold maxLen at h2; omega
  have hfn : src.funcs.length ≤ 9223372036854775807 := by
    rcases hs.2 with ⟨_, e2⟩ | ⟨g, cap, _, h1, h2, _⟩
    · rw [e2]; exact Nat.zero_le _
    · unfold maxLen at h2; omega
  have HG : Hid (∀ k x, src.globals[k]? = some x → ∃ g', go = some ⟨g', 0, none⟩ ∧ g' < w.heap.size ∧ w.cell? ⟨g', k * 2, none⟩ = some (.string (mkT x.name)) ∧ w.cell? ⟨g', k * 2 + 1, none⟩ = some (.int .i64 (x.at_ : Nat))) := Lib.hid fun k x hx => by
    rcases hs.1 with ⟨_, e2⟩ | ⟨g', cap, e, _, _, hg, _, h6⟩
    · rw [e2] at hx; cases hx
    · injection e with e1 _ _
      exact ⟨g', e1, hg, h6 k x hx⟩
  have HF : Hid (∀ k x, src.funcs[k]? = some x → ∃ g', fo = some ⟨g', 0, none⟩ ∧ g' < w.heap.size ∧ FuAt w (fun k => k < w.heap.size) g' (k * 5) x) := Lib.hid fun k x hx => by
    rcases hs.2 with ⟨_, e2⟩ | ⟨g', cap, e, _, _, hg, _, h6⟩
    · rw [e2] at hx; cases hx
    · injection e with e1 _ _
      exact ⟨g', e1, hg, h6 k x hx⟩
  have hb1 := fresh_alloc w #[.slice go src.globals.length gc, .slice fo src.funcs.length fc] 26
  have hb2 := fresh_alloc (w.alloc (.cells #[.slice go src.globals.length gc, .slice fo src.funcs.length fc] 26)) #[.pointer none, .slice none 0 0] 80
  have hpc := pc_new (w.alloc (.cells #[.slice go src.globals.length gc, .slice fo src.funcs.length fc] 26))
  rw [alloc_size w] at hpc hb2
  have HPC := Lib.hid hpc
  have HB := Lib.hid (hb1.trans (hb2.mono (Nat.le_succ _)))
  have HCE : Hid (((w.alloc (.cells #[.slice go src.globals.length gc, .slice fo src.funcs.length fc] 26)).alloc (.cells #[.pointer none, .slice none 0 0] 80)).cell? ⟨w.heap.size, 1, none⟩ = some (.slice fo src.funcs.length fc)) := Lib.hid (by
    rw [hb2.cell (p := ⟨w.heap.size, 1, none⟩) (Nat.lt_succ_self _), Lib.cell_of_heap (heap_alloc_new w _)]; rfl)
  have HP := Lib.hid hP
  have HOK := Lib.hid hok
  have HL := Lib.hid hlen
  unfold printV at HL
  clear hs hP hok hlen hb1 hb2 hpc
  go_enter Tryz.func14, Tryz.ntmps14
  go_wp2_with fail
  go_loopw [11, 5] (fun i _ wr => ∃ k : Nat, k ≤ src.globals.length ∧ i = .int .i64 k ∧ PC (w.heap.size + 1) (w.heap.size + 1) ((src.globals.take k).flatMap glV) wr ∧ Below w.heap.size w wr ∧ wr.cell? ⟨w.heap.size, 1, none⟩ = some (.slice fo src.funcs.length fc)) (fun i _ _ => src.globals.length - (intOf i).toNat)
  case atStart => exact ⟨0, Nat.zero_le _, rfl, HPC.out, HB.out, HCE.out⟩
  case round =>
    obtain ⟨k, hk, rfl, hp, hb, hce⟩ := hrel
    have HPP := Lib.hid hp
    have HBL := Lib.hid hb
    have HCF := Lib.hid hce
    clear hp hb hce
    by_cases hlt : k < src.globals.length
    · obtain ⟨x, hkx⟩ : ∃ x, src.globals[k]? = some x := ⟨_, List.getElem?_eq_getElem hlt⟩
      obtain ⟨g', rfl, hg, c0, c1⟩ := HG.out k x hkx
      have hki : (k : Int) < (src.globals.length : Int) := by omega
      have hkii : (0 : Int) ≤ (k : Int) ∧ (k : Int) < (src.globals.length : Int) := by omega
      have hw : IntKind.i64.wrap ((k : Int) + 1) = (k : Int) + 1 := IntWalk.i64_in _ (by omega)
      have hat := flat_take glV hkx
      have hle := flat_le glV src.globals (k + 1)
      rw [hat, List.length_append] at hle
      rw [← HBL.out.cell (p := ⟨g', k * 2, none⟩) hg] at c0
      rw [← HBL.out.cell (p := ⟨g', k * 2 + 1, none⟩) hg] at c1
      have HAT := Lib.hid hat
      have hbc := fresh_alloc wr #[.string (mkT x.name), .int .i64 (x.at_ : Nat)] 64
      have hsz : (w.heap.size + 1) ≤ wr.heap.size := Nat.le_of_lt HPP.out.1.lt
      have HC := Lib.hid (line_new (w.heap.size + 1) (w.heap.size + 1) 0 ((src.globals.take k).flatMap glV) [mkT cVar, mkT x.name] (wr.alloc (.cells #[.string (mkT x.name), .int .i64 (x.at_ : Nat)] 64)) (HPP.out.fresh hbc) (Nat.le_trans hsz hbc.size) (by have h7 := HL.out; rw [List.length_append] at h7; rw [catV2]; unfold glV at hle h7 ⊢; omega) (by simp))
      rw [catV2, alloc_size wr, show ((0 : Nat) : Int) = 0 from rfl] at HC
      have HBc := Lib.hid (HBL.out.trans (hbc.mono (Nat.le_trans (Nat.le_succ _) hsz)))
      have HCc : Hid ((wr.alloc (.cells #[.string (mkT x.name), .int .i64 (x.at_ : Nat)] 64)).cell? ⟨w.heap.size, 1, none⟩ = some (.slice fo src.funcs.length fc)) := Lib.hid (by rw [hbc.cell (p := ⟨w.heap.size, 1, none⟩) hsz]; exact HCF.out)
      clear hkx hg hat hle hbc hsz
      go_wp2_with fail
      refine HC.out.mono ?_
      rintro e w3 ⟨rfl, h3, hb3, ho3⟩
      have H3 : Hid (PC (w.heap.size + 1) (w.heap.size + 1) ((src.globals.take (k + 1)).flatMap glV) w3) := Lib.hid (by rw [HAT.out]; exact h3)
      have HC3 : Hid (w3.cell? ⟨w.heap.size, 1, none⟩ = some (.slice fo src.funcs.length fc)) := Lib.hid (by rw [hb3.cell (p := ⟨w.heap.size, 1, none⟩) (Nat.lt_succ_self _)]; exact HCc.out)
      have HB3 := Lib.hid (HBc.out.trans (hb3.mono (Nat.le_succ _)))
      clear h3 hb3 ho3
      go_wp2_with fail
      exact ⟨⟨k + 1, by omega, by simp, H3.out, HB3.out, HC3.out⟩, by simp [intOf]; omega⟩
    · have hki : ¬ (k : Int) < (src.globals.length : Int) := by omega
      have hkk : k = src.globals.length := by omega
      have h1 := HPP.out
      rw [hkk, List.take_length] at h1
      have HP1 := Lib.hid h1
      have HB1 := Lib.hid HBL.out
      have d1 := HCF.out
      clear hkk h1
      go_wp2_with fail
      clear d1
      rename World => wz
      go_loopw [23, 7] (fun i _ wq => ∃ k : Nat, k ≤ src.funcs.length ∧ i = .int .i64 k ∧ PC (w.heap.size + 1) (w.heap.size + 1) (src.globals.flatMap glV ++ (src.funcs.take k).flatMap fuV) wq ∧ Below w.heap.size w wq) (fun i _ _ => src.funcs.length - (intOf i).toNat)
      case atStart => exact ⟨0, Nat.zero_le _, rfl, by rw [List.take_zero]; show PC (w.heap.size + 1) (w.heap.size + 1) (src.globals.flatMap glV ++ []) wz; rw [List.append_nil]; exact HP1.out, HB1.out⟩
      case round =>
        obtain ⟨k, hk, rfl, hp, hb⟩ := hrel
        have HPQ := Lib.hid hp
        have HBQ := Lib.hid hb
        clear hp hb
        by_cases hlt : k < src.funcs.length
        · obtain ⟨x, hkx⟩ : ∃ x, src.funcs[k]? = some x := ⟨_, List.getElem?_eq_getElem hlt⟩
          obtain ⟨g', rfl, hg, pv, bv, c0, c1, c2, c3, c4, hpa, hst⟩ := HF.out k x hkx
          obtain ⟨po, pc, rfl⟩ := paRow_form hpa
          obtain ⟨bo, bn, bc, rfl⟩ := slAt_form hst.1
          have hki : (k : Int) < (src.funcs.length : Int) := by omega
          have hkii : (0 : Int) ≤ (k : Int) ∧ (k : Int) < (src.funcs.length : Int) := by omega
          have hw : IntKind.i64.wrap ((k : Int) + 1) = (k : Int) + 1 := IntWalk.i64_in _ (by omega)
          have hat := flat_take fuV hkx
          have hle := flat_le fuV src.funcs (k + 1)
          rw [hat, List.length_append] at hle
          have hbc := fresh_alloc wr #[.string (mkT x.name), .int .i64 (x.at_ : Nat), .slice po x.params.length pc, .int .i64 (x.kind : Nat), .slice bo bn bc] 45
          have hsz : (w.heap.size + 1) ≤ wr.heap.size := Nat.le_of_lt HPQ.out.1.lt
          have hbf := HBQ.out.trans (hbc.mono (Nat.le_trans (Nat.le_succ _) hsz))
          have hkf : Keeps (fun k => w.heap.size ≤ k) w (wr.alloc (.cells #[.string (mkT x.name), .int .i64 (x.at_ : Nat), .slice po x.params.length pc, .int .i64 (x.kind : Nat), .slice bo bn bc] 45)) := Keeps.of_below (S := fun k => w.heap.size ≤ k) hbf (fun _ _ e => e)
          have hdj : ∀ b : Nat, b < w.heap.size → ¬ (w.heap.size ≤ b) := fun b h1 h2 => by omega
          have hup : ∀ b : Nat, b < w.heap.size → b < (w.heap.size + 1) := fun b h1 => Nat.lt_succ_of_lt h1
          have HC := Lib.hid (pfunction_any (B := (w.heap.size + 1)) (b := (w.heap.size + 1)) (g := x) (po := po) (bo := bo) (pc := pc) (bn := bn) (bc := bc) (HOK.out x (List.mem_of_getElem? hkx)) (src.globals.flatMap glV ++ (src.funcs.take k).flatMap fuV) (wr.alloc (.cells #[.string (mkT x.name), .int .i64 (x.at_ : Nat), .slice po x.params.length pc, .int .i64 (x.kind : Nat), .slice bo bn bc] 45)) (HPQ.out.fresh hbc) (Nat.le_trans hsz hbc.size) ((HP.out.below hbf).mono (Nat.le_succ _)) (PaRow.mono (fun b _ h => hup b h) (hpa.keeps hkf hdj)) (hst.1.mono hup) (fun g n cap e => StsIn.mono hup g 0 _ ((hst.keeps hkf hdj).2 g n cap e)) (by have h7 := HL.out; rw [List.length_append] at h7 ⊢; omega))
          unfold Writes at HC
          rw [← HBQ.out.cell (p := ⟨g', k * 5, none⟩) hg] at c0
          rw [← HBQ.out.cell (p := ⟨g', k * 5 + 1, none⟩) hg] at c1
          rw [← HBQ.out.cell (p := ⟨g', k * 5 + 2, none⟩) hg] at c2
          rw [← HBQ.out.cell (p := ⟨g', k * 5 + 3, none⟩) hg] at c3
          rw [← HBQ.out.cell (p := ⟨g', k * 5 + 4, none⟩) hg] at c4
          have HAT := Lib.hid hat
          have HBF := Lib.hid hbf
          clear hkx hg hat hle hbc hsz hbf hkf hdj hup hpa hst
          go_wp2_with fail
          refine HC.out.mono ?_
          rintro e w3 ⟨rfl, h3, hb3, ho3⟩
          have H3 : Hid (PC (w.heap.size + 1) (w.heap.size + 1) (src.globals.flatMap glV ++ (src.funcs.take (k + 1)).flatMap fuV) w3) := Lib.hid (by rw [HAT.out, ← List.append_assoc]; exact h3)
          have HB3 := Lib.hid (HBF.out.trans (hb3.mono (Nat.le_succ _)))
          clear h3 hb3 ho3
          go_wp2_with fail
          exact ⟨⟨k + 1, by omega, by simp, H3.out, HB3.out⟩, by simp [intOf]; omega⟩
        · have hki : ¬ (k : Int) < (src.funcs.length : Int) := by omega
          have hkk : k = src.funcs.length := by omega
          have h1 := HPQ.out
          rw [hkk, List.take_length] at h1
          have HS := Lib.hid (pString_any _ _ _ _ h1)
          clear hkk h1
          go_wp2_with fail
          refine HS.out.mono ?_
          rintro e w3 ⟨rfl, hb3⟩
          have HB3 := Lib.hid (HBQ.out.trans (hb3.mono (Nat.le_succ _)))
          clear hb3
          go_wp2_with fail
          try simp only [Exit.inBlock, Exit.then]
          go_ret
          exact ⟨rfl, HB3.out⟩
end Go.Proofs.YtgonbmcojjcabaaGreatDoor

namespace Go.Proofs.YtgonbmcojjcabaaGreatDoor
open Go.RowKit Lx Tr

theorem exW_E (least : Nat) : ∀ (x : Ex) (b : Lx.B), exW least (exE x) b = exW least x b
  | .nil, _ => by rw [exE]
  | .mk .., _ => by rw [exE]; rfl
mutual
theorem bareV_E : ∀ x : Ex, bareV (exE x) = bareV x
  | .nil => by rw [exE]
  | .mk c a n op nm l r zs => by
    rw [exE, bareV, bareV, bareV_E l, bareV_E r, argV_E true zs]
    simp only [exW_E]
theorem argV_E : ∀ (f : Bool) (xs : Exs), argV f (exsE xs) = argV f xs
  | f, .nil => by rw [exsE]
  | f, .cons x xs => by rw [exsE, argV, argV, bareV_E x, argV_E false xs, exW_E]
end
theorem exV_E (least : Nat) (x : Ex) : exV least (exE x) = exV least x := by unfold exV; rw [exW_E, bareV_E]
theorem giveV_E (d : Nat) : ∀ x : Ex, giveV d (exE x) = giveV d x
  | .nil => by rw [exE]
  | .mk c a n op nm l r zs => by
    have h := exV_E 1 (.mk c a n op nm l r zs)
    rw [exE] at h ⊢
    show lineV d (cReturn ++ exV 1 _) = lineV d (cReturn ++ exV 1 _)
    rw [h]
theorem sentV_E (x y : Ex) : sentV (exE x) (exE y) = sentV x y := by unfold sentV; rw [exV_E, exV_E]
theorem talkV_E (c : Nat) (nm : Lx.B) (x y : Ex) : talkV c nm (exE x) (exE y) = talkV c nm x y := by unfold talkV; rw [sentV_E, exV_E]
theorem stsE_len : ∀ xs : Sts, (stsE xs).len = xs.len
  | .nil => by rw [stsE]
  | .cons x xs => by rw [stsE, Sts.len, Sts.len, stsE_len xs]
mutual
theorem stV_E : ∀ (d : Nat) (s : St), stV d (stE s) = stV d s
  | d, .mk c a nm dst v t e cs => by
    rw [stE, stV, stV, exV_E, sentV_E, giveV_E, stsV_E (d + 1) t, stsV_E (d + 1) e, casV_E d cs, stsE_len]
theorem stsV_E : ∀ (d : Nat) (xs : Sts), stsV d (stsE xs) = stsV d xs
  | d, .nil => by rw [stsE]
  | d, .cons x xs => by rw [stsE, stsV, stsV, stV_E d x, stsV_E d xs]
theorem caV_E : ∀ (d : Nat) (c : Ca), caV d (caE c) = caV d c
  | d, .mk c a nm dst v b => by rw [caE, caV, caV, talkV_E, stsV_E (d + 1) b]
theorem casV_E : ∀ (d : Nat) (xs : Cas), casV d (casE xs) = casV d xs
  | d, .nil => by rw [casE]
  | d, .cons x xs => by rw [casE, casV, casV, caV_E d x, casV_E d xs]
end
theorem parL_E : ∀ (f : Bool) (l : List Pa), parL f (l.map paE) = parL f l
  | _, [] => rfl
  | f, x :: xs => by
    show (if f then [] else [44, 32]) ++ (paV (paE x) ++ parL false (xs.map paE)) = (if f then [] else [44, 32]) ++ (paV x ++ parL false xs)
    rw [parL_E false xs]
    rfl
theorem fuV_E (g : Fu) : fuV (fuE g) = fuV g := by
  unfold fuV fuE
  rw [parL_E, stsV_E]
theorem fusV_E {l l' : List Fu} (h : l'.map fuE = l.map fuE) : l'.flatMap fuV = l.flatMap fuV := by
  have e : ∀ l : List Fu, l.flatMap fuV = (l.map fuE).flatMap fuV := fun l => by
    rw [List.flatMap_map]
    exact congrArg (fun f => List.flatMap f l) (funext fun g => (fuV_E g).symm)
  rw [e l', h, ← e l]
theorem glsV_E {l l' : List Gl} (h : l'.map glE = l.map glE) : l'.flatMap glV = l.flatMap glV := by
  have e : ∀ l : List Gl, l.flatMap glV = (l.map glE).flatMap glV := fun l => by
    rw [List.flatMap_map]
    rfl
  rw [e l', h, ← e l]
theorem printV_E {s s' : Src} (hg : s'.globals.map glE = s.globals.map glE) (hf : s'.funcs.map fuE = s.funcs.map fuE) : printV s' = printV s := by
  unfold printV
  rw [glsV_E hg, fusV_E hf]
end Go.Proofs.YtgonbmcojjcabaaGreatDoor

namespace Go.Proofs.YtgonbmcojjcabaaGreatDoor
open Go.RowKit Lx Tr

/-- The weight of the tokens up to a place. -/
def wsT (E : Env) : Nat → Nat
  | 0 => 0
  | n + 1 => wsT E n + ((pk E n).text.length + 128)
theorem ws_add (E : Env) (n k : Nat) : wsT E n + 128 * k ≤ wsT E (n + k) := by
  induction k with
  | zero => simp
  | succ k ih => show _ ≤ wsT E (n + k) + _; omega
theorem ws_mono (E : Env) {n m : Nat} (h : n ≤ m) : wsT E n + 128 * (m - n) ≤ wsT E m := by
  have := ws_add E n (m - n)
  rw [show n + (m - n) = m by omega] at this
  exact this
theorem ws_one (E : Env) (n : Nat) : wsT E (n + 1) = wsT E n + ((pk E n).text.length + 128) := rfl

theorem signL_len (k : Nat) : (signL k).length ≤ 3 := by
  unfold signL
  by_cases h : k < signsL.length
  · have : ∀ x ∈ signsL, x.length ≤ 3 := by decide
    rw [List.getD_eq_getElem?_getD, List.getElem?_eq_getElem h]
    exact this _ (List.getElem_mem h)
  · rw [List.getD_eq_getElem?_getD, List.getElem?_eq_none (by omega)]
    exact Nat.zero_le _
theorem sgV_len (k : Nat) : (sgV k).length ≤ 3 := by
  unfold sgV
  split
  · decide
  · split
    · decide
    · exact signL_len k
theorem kindB_len (k : Nat) : (kindB k).length ≤ 4 := by
  unfold kindB
  by_cases h : k < kindsL.length
  · have : ∀ x ∈ kindsL, x.length ≤ 4 := by decide
    rw [List.getD_eq_getElem?_getD, List.getElem?_eq_getElem h]
    exact this _ (List.getElem_mem h)
  · rw [List.getD_eq_getElem?_getD, List.getElem?_eq_none (by omega)]
    exact Nat.zero_le _
theorem exW_len (least : Nat) (x : Ex) (b : Lx.B) : (exW least x b).length ≤ b.length + 2 := by
  unfold exW
  split
  · exact Nat.zero_le _
  · split
    · simp
    · omega

/-- An expression of the tokens from n to m. -/
def ExL (E : Env) (n m : Nat) (x : Ex) : Prop := ExOk x ∧ (bareV x).length + 64 + wsT E n ≤ wsT E m
def ExsL (E : Env) (n m : Nat) (x : Exs) : Prop := ExsOk x ∧ (argV true x).length + 64 + wsT E n ≤ wsT E m
theorem ExL.ex {E : Env} {n m : Nat} {x : Ex} (h : ExL E n m x) (least : Nat) : (exV least x).length + 62 + wsT E n ≤ wsT E m := by
  have := exW_len least x (bareV x)
  have := h.2
  unfold exV; omega
theorem argV_snoc : ∀ (xs : Exs) (f : Bool) (y : Ex), (argV f (xs.snoc y)).length ≤ (argV f xs).length + (bareV y).length + 4
  | .nil, f, y => by
    rw [Exs.snoc, argV, argV, argV]
    have := exW_len 1 y (bareV y)
    cases f <;> simp <;> omega
  | .cons x xs, f, y => by
    rw [Exs.snoc, argV, argV]
    have := argV_snoc xs false y
    simp only [List.length_append]
    omega
theorem ExsOk_snoc : ∀ (xs : Exs) (y : Ex), ExsOk xs → ExOk y → ExsOk (xs.snoc y)
  | .nil, _, _, h => ⟨h, trivial⟩
  | .cons _ xs, y, h, h2 => ⟨h.1, ExsOk_snoc xs y h.2 h2⟩
/-- A leaf. -/
theorem ExL.leaf {E : Env} {n code at_ k : Nat} {nm : Lx.B} (hk : k ≤ 9223372036854775807) (hnm : nm.length ≤ (pk E n).text.length) : ExL E n (n + 1) (Tr.leaf code at_ k nm) := by
  refine ⟨⟨hk, trivial, trivial, trivial⟩, ?_⟩
  rw [ws_one]
  have h1 : (sOfB k).length ≤ 21 := Lib.itoa_length_le _ (by omega) (by omega)
  have h2 : (bareV (Tr.leaf code at_ k nm)).length ≤ (pk E n).text.length + 64 := by
    unfold Tr.leaf
    rw [bareV]
    have e0 : exW 6 Ex.nil (bareV .nil) = [] := rfl
    have e1 : exW 1 Ex.nil (bareV .nil) = [] := rfl
    have e2 : exW (levV 0) Ex.nil (bareV .nil) = [] := rfl
    have e3 : exW (levV 0 + 1) Ex.nil (bareV .nil) = [] := rfl
    have e4 : argV true Exs.nil = [] := by rw [argV]
    have h3 := sgV_len 0
    have h4 := signL_len 0
    rw [e0, e1, e2, e3, e4]
    repeat' split
    all_goals ((try simp only [List.length_append, List.length_cons, List.length_nil, List.append_nil, tTrue, tFalse, tNil, tArrow, tMake, tLen]); omega)
  omega

structure Lens (E : Env) (f : Nat) : Prop where
  one : ∀ d n x m, one E f d n = .ok x m → ExL E n m x
  bracketed : ∀ d n x m, bracketed E f d n = .ok x m → ExL E n m x
  tied : ∀ l d n x m, tied E f l d n = .ok x m → ExL E n m x
  tloop : ∀ l d a n0 n x m, tloop E f l d a n = .ok x m → ExL E n0 n a → ExL E n0 m x
  named : ∀ d n x m, named E f d n = .ok x m → ExL E n m x
  call : ∀ d t n0 n x m, call E f d t n = .ok x m → wsT E n0 + t.text.length + 128 ≤ wsT E n → ExL E n0 m x
  args : ∀ d a n0 n x m, args E f d a n = .ok x m → ExsL E n0 n a → ExsL E n0 m x
theorem take_one {E : Env} {t : Lx.B} {n m : Nat} {x : Tok} (h : take E t n = .ok x m) : m = n + 1 := by
  unfold take Tr.fail at h
  split at h
  · cases h; rfl
  · cases h
theorem takeKind_one {E : Env} {q n m : Nat} {x : Tok} (h : takeKind E q n = .ok x m) : m = n + 1 ∧ x = pk E n := by
  unfold takeKind Tr.fail at h
  split at h
  · cases h; exact ⟨rfl, rfl⟩
  · cases h

theorem un_len {E : Env} {n m code at_ k op : Nat} {x : Ex} (hk : k ≤ 9223372036854775807) (hc : code = 6 ∨ code = 10 ∨ code = 8 ∨ code = 9) (h : ExL E (n + 1) m x) : ExL E n m (.mk code at_ k op [] x .nil .nil) := by
  refine ⟨⟨hk, h.1, trivial, trivial⟩, ?_⟩
  have h2 := h.2
  rw [ws_one] at h2
  have h3 : (bareV (.mk code at_ k op [] x .nil .nil)).length ≤ (bareV x).length + 8 := by
    have a1 := exW_len 6 x (bareV x)
    have a2 := exW_len 1 x (bareV x)
    have a3 := signL_len op
    rw [bareV]
    rcases hc with rfl | rfl | rfl | rfl
    all_goals (simp only [reduceIte, List.length_append, List.length_cons, List.length_nil, tTrue, tFalse, tNil, tArrow, tMake, tLen, Nat.reduceEqDiff]; omega)
  omega

set_option maxHeartbeats 3200000 in
theorem lens {E : Env} (hnum : ∀ n, (pk E n).kind = 3 → numV (pk E n).text ≤ 9223372036854775807) (f : Nat) : Lens E f := by
  induction f with
  | zero =>
    constructor
    · intro _ _ _ _ h; rw [Tr.one] at h; cases h
    · intro _ _ _ _ h; rw [Tr.bracketed] at h; cases h
    · intro _ _ _ _ _ h; rw [Tr.tied] at h; cases h
    · intro _ _ _ _ _ _ _ h; rw [Tr.tloop] at h; cases h
    · intro _ _ _ _ h; rw [Tr.named] at h; cases h
    · intro _ _ _ _ _ _ h; rw [Tr.call] at h; cases h
    · intro _ _ _ _ _ _ h; rw [Tr.args] at h; cases h
  | succ f ih =>
    constructor
    · intro d n x m h
      rw [Tr.one] at h
      by_cases c0 : 12 < d
      · rw [if_pos c0] at h; exact (fail_ok h).elim
      rw [if_neg c0] at h
      by_cases c1 : (pk E n).kind = 3
      · rw [if_pos c1] at h
        cases h
        exact ExL.leaf (hnum n c1) (Nat.zero_le _)
      rw [if_neg c1] at h
      by_cases c2 : (pk E n).kind = 1
      · rw [if_pos c2] at h
        exact ih.named _ _ _ _ h
      rw [if_neg c2] at h
      by_cases c3 : (pk E n).text = tLp
      · rw [if_pos c3] at h
        exact ih.bracketed _ _ _ _ h
      rw [if_neg c3] at h
      by_cases c4 : (pk E n).text = [45] ∨ (pk E n).text = [94] ∨ (pk E n).text = [33]
      · rw [if_pos c4] at h
        obtain ⟨y, n1, h1, h⟩ := bind_ok h
        cases h
        exact un_len (by omega) (by simp) (ih.one _ _ _ _ h1)
      rw [if_neg c4] at h
      by_cases c5 : (pk E n).text = tArrow
      · rw [if_pos c5] at h
        obtain ⟨y, n1, h1, h⟩ := bind_ok h
        cases h
        exact un_len (by omega) (by simp) (ih.one _ _ _ _ h1)
      rw [if_neg c5] at h
      by_cases c6 : (pk E n).text = tMake
      · rw [if_pos c6] at h
        obtain ⟨y, n1, h1, h⟩ := bind_ok h
        cases h
        exact un_len (by omega) (by simp) (ih.bracketed _ _ _ _ h1)
      rw [if_neg c6] at h
      by_cases c7 : (pk E n).text = tLen
      · rw [if_pos c7] at h
        obtain ⟨y, n1, h1, h⟩ := bind_ok h
        cases h
        exact un_len (by omega) (by simp) (ih.bracketed _ _ _ _ h1)
      rw [if_neg c7] at h
      by_cases c8 : (pk E n).text = tTrue
      · rw [if_pos c8] at h
        cases h
        exact ExL.leaf (by omega) (Nat.zero_le _)
      rw [if_neg c8] at h
      by_cases c9 : (pk E n).text = tFalse
      · rw [if_pos c9] at h
        cases h
        exact ExL.leaf (by omega) (Nat.zero_le _)
      rw [if_neg c9] at h
      by_cases c10 : (pk E n).text = tNil
      · rw [if_pos c10] at h
        cases h
        exact ExL.leaf (by omega) (Nat.zero_le _)
      rw [if_neg c10] at h
      exact (fail_ok h).elim
    · intro d n x m h
      rw [bracketed_eq] at h
      obtain ⟨_, n1, h1, h⟩ := bind_ok h
      obtain ⟨y, n2, h2, h⟩ := bind_ok h
      obtain ⟨_, n3, h3, h⟩ := bind_ok h
      cases h
      have q := ih.tied _ _ _ _ _ h2
      have a1 := ws_mono E (Nat.le_of_lt (take_on h1))
      have a3 := ws_mono E (Nat.le_of_lt (take_on h3))
      exact ⟨q.1, by have := q.2; omega⟩
    · intro l d n x m h
      rw [tied_eq] at h
      by_cases c : l = 6
      · rw [if_pos c] at h
        exact ih.one _ _ _ _ h
      · rw [if_neg c] at h
        obtain ⟨y, n1, h1, h⟩ := bind_ok h
        exact ih.tloop _ _ _ _ _ _ _ h (ih.tied _ _ _ _ _ h1)
    · intro l d a n0 n x m h ha
      rw [tloop_eq] at h
      by_cases c : levV (opV (pk E n).text) = l
      · rw [if_pos c] at h
        obtain ⟨y, n1, h1, h⟩ := bind_ok h
        have q := ih.tied _ _ _ _ _ h1
        refine ih.tloop _ _ _ n0 _ _ _ h ⟨⟨by omega, ha.1, q.1, trivial⟩, ?_⟩
        have b1 := ha.2
        have b2 := q.2
        rw [ws_one] at b2
        have b3 := exW_len (levV (opV (pk E n).text)) a (bareV a)
        have b4 := exW_len (levV (opV (pk E n).text) + 1) y (bareV y)
        have b5 := sgV_len (opV (pk E n).text)
        rw [bareV]
        simp only [reduceIte, List.length_append, List.length_cons, List.length_nil, Nat.reduceEqDiff]
        omega
      · rw [if_neg c] at h
        cases h
        exact ha
    · intro d n x m h
      rw [named_eq] at h
      by_cases c : (pk E (n + 1)).text = tLp
      · rw [if_pos c] at h
        exact ih.call _ _ n _ _ _ h (by rw [ws_one]; omega)
      · rw [if_neg c] at h
        cases h
        exact ExL.leaf (by omega) (Nat.le_refl _)
    · intro d t n0 n x m h ht
      rw [call_eq] at h
      obtain ⟨_, n1, h1, h⟩ := bind_ok h
      have a1 := ws_mono E (Nat.le_of_lt (take_on h1))
      by_cases c : (pk E n1).text = tRp
      · rw [if_pos c] at h
        cases h
        refine ⟨⟨by omega, trivial, trivial, trivial⟩, ?_⟩
        rw [bareV, ws_one]
        have e4 : argV true Exs.nil = [] := by rw [argV]
        rw [e4]
        simp only [reduceIte, List.length_append, List.length_cons, List.length_nil, Nat.reduceEqDiff]
        omega
      · rw [if_neg c] at h
        obtain ⟨y, n2, h2, h⟩ := bind_ok h
        cases h
        have q := ih.args _ .nil n _ _ _ h2 ⟨trivial, by
          have e4 : argV true Exs.nil = [] := by rw [argV]
          rw [e4]
          have := take_one h1
          subst this
          rw [ws_one]
          simp only [List.length_nil]
          omega⟩
        refine ⟨⟨by omega, trivial, trivial, q.1⟩, ?_⟩
        have b1 := q.2
        rw [bareV]
        simp only [reduceIte, List.length_append, List.length_cons, List.length_nil, Nat.reduceEqDiff]
        omega
    · intro d a n0 n x m h ha
      rw [args_eq] at h
      obtain ⟨y, n1, h1, h⟩ := bind_ok h
      have q := ih.tied _ _ _ _ _ h1
      have b0 := argV_snoc a true y
      have b1 := ha.2
      have b2 := q.2
      by_cases c : (pk E n1).text = tComma
      · rw [if_pos c] at h
        refine ih.args _ _ n0 _ _ _ h ⟨ExsOk_snoc _ _ ha.1 q.1, ?_⟩
        rw [ws_one]
        omega
      · rw [if_neg c] at h
        obtain ⟨_, n2, h2, h⟩ := bind_ok h
        have a2 := ws_mono E (Nat.le_of_lt (take_on h2))
        have a3 := take_one h2
        cases h
        refine ⟨ExsOk_snoc _ _ ha.1 q.1, ?_⟩
        subst a3
        rw [ws_one] at a2 ⊢
        omega
end Go.Proofs.YtgonbmcojjcabaaGreatDoor

namespace Go.Proofs.YtgonbmcojjcabaaGreatDoor
open Go.RowKit Lx Tr

def StL (E : Env) (d n m : Nat) (s : St) : Prop := StOk s ∧ (stV d s).length + wsT E n ≤ wsT E m
def StsL (E : Env) (d n m : Nat) (s : Sts) : Prop := StsOk s ∧ (stsV d s).length + wsT E n ≤ wsT E m
def CaL (E : Env) (d n m : Nat) (s : Ca) : Prop := CaOk s ∧ (caV d s).length + wsT E n ≤ wsT E m
def CasL (E : Env) (d n m : Nat) (s : Cas) : Prop := CasOk s ∧ (casV d s).length + wsT E n ≤ wsT E m
theorem stsV_snoc (d : Nat) : ∀ (xs : Sts) (y : St), stsV d (xs.snoc y) = stsV d xs ++ stV d y
  | .nil, y => by rw [Sts.snoc, stsV, stsV, stsV, List.append_nil, List.nil_append]
  | .cons x xs, y => by rw [Sts.snoc, stsV, stsV, stsV_snoc d xs y, List.append_assoc]
theorem casV_snoc (d : Nat) : ∀ (xs : Cas) (y : Ca), casV d (xs.snoc y) = casV d xs ++ caV d y
  | .nil, y => by rw [Cas.snoc, casV, casV, casV, List.append_nil, List.nil_append]
  | .cons x xs, y => by rw [Cas.snoc, casV, casV, casV_snoc d xs y, List.append_assoc]
theorem StsOk_snoc : ∀ (xs : Sts) (y : St), StsOk xs → StOk y → StsOk (xs.snoc y)
  | .nil, _, _, h => ⟨h, trivial⟩
  | .cons _ xs, y, h, h2 => ⟨h.1, StsOk_snoc xs y h.2 h2⟩
theorem CasOk_snoc : ∀ (xs : Cas) (y : Ca), CasOk xs → CaOk y → CasOk (xs.snoc y)
  | .nil, _, _, h => ⟨h, trivial⟩
  | .cons _ xs, y, h, h2 => ⟨h.1, CasOk_snoc xs y h.2 h2⟩
theorem StsL.snoc {E : Env} {d n0 n m : Nat} {xs : Sts} {y : St} (h : StsL E d n0 n xs) (h2 : StL E d n m y) : StsL E d n0 m (xs.snoc y) := by
  refine ⟨StsOk_snoc _ _ h.1 h2.1, ?_⟩
  rw [stsV_snoc, List.length_append]
  have := h.2
  have := h2.2
  omega
theorem CasL.snoc {E : Env} {d n0 n m : Nat} {xs : Cas} {y : Ca} (h : CasL E d n0 n xs) (h2 : CaL E d n m y) : CasL E d n0 m (xs.snoc y) := by
  refine ⟨CasOk_snoc _ _ h.1 h2.1, ?_⟩
  rw [casV_snoc, List.length_append]
  have := h.2
  have := h2.2
  omega
theorem StsL.on {E : Env} {d n0 n m : Nat} {xs : Sts} (h : StsL E d n0 n xs) (hm : n ≤ m) : StsL E d n0 m xs := ⟨h.1, by have := h.2; have := ws_mono E hm; omega⟩
theorem ExL.nilOk : ExOk .nil := trivial
theorem exV_nil (least : Nat) : exV least .nil = [] := rfl
theorem stsV_nil (d : Nat) : stsV d .nil = [] := by rw [stsV]
theorem casV_nil (d : Nat) : casV d .nil = [] := by rw [casV]
theorem giveV_len (d : Nat) (x : Ex) : (giveV d x).length ≤ 2 * d + 8 + (exV 1 x).length := by
  unfold giveV
  split
  · rw [lineV_len]; simp only [cReturn0, List.length_cons, List.length_nil]; omega
  · rw [lineV_len]; simp only [cReturn, List.length_append, List.length_cons, List.length_nil]; omega

set_option maxHeartbeats 3200000 in
/-- A statement with no statements in it. -/
theorem stz_len {E : Env} {d n m code at_ : Nat} {nm : Lx.B} {dst v : Ex} (hd : d ≤ 12) (h1 : ExOk dst) (h2 : ExOk v) (hl : nm.length + (exV 6 dst).length + (exV 1 v).length + 40 + wsT E n ≤ wsT E m) (hc : code < 12) : StL E d n m (stz code at_ nm dst v) := by
  refine ⟨⟨h1, h2, trivial, trivial, trivial⟩, ?_⟩
  have hg := giveV_len d v
  have : (stV d (stz code at_ nm dst v)).length ≤ 40 + nm.length + (exV 6 dst).length + (exV 1 v).length := by
    unfold stz
    rcases (by omega : code = 0 ∨ code = 1 ∨ code = 2 ∨ code = 3 ∨ code = 4 ∨ code = 5 ∨ code = 6 ∨ code = 7 ∨ code = 8 ∨ code = 9 ∨ code = 10 ∨ code = 11) with rfl | rfl | rfl | rfl | rfl | rfl | rfl | rfl | rfl | rfl | rfl | rfl
    all_goals (rw [stV]; simp only [reduceIte, Nat.reduceEqDiff, sentV, lineV_len, cLet, cSet, cClose, cRp, cPrint, cSleep, cGo, cBreak, cContinue, List.length_append, List.length_cons, List.length_nil]; omega)
  omega
theorem expr_len {E : Env} (hnum : ∀ n, (pk E n).kind = 3 → numV (pk E n).text ≤ 9223372036854775807) {f d n m : Nat} {x : Ex} (h : expr E f d n = .ok x m) : ExL E n m x := (lens hnum f).tied _ _ _ _ _ h
theorem ws_two (E : Env) (n : Nat) : wsT E (n + 2) = wsT E n + ((pk E n).text.length + 128) + ((pk E (n + 1)).text.length + 128) := rfl
theorem left_len {E : Env} {n m : Nat} {x : Ex} (h : ExL E n m x) (hc : Tr.codeOf x = 10) : ExOk (Tr.leftOf x) ∧ (exV 6 (Tr.leftOf x)).length + 64 + wsT E n ≤ wsT E m := by
  cases x with
  | nil => cases hc
  | mk code at_ k op nm l r zs =>
    have hc' : code = 10 := hc
    subst hc'
    refine ⟨h.1.2.1, ?_⟩
    have h2 := h.2
    rw [bareV] at h2
    simp only [reduceIte, List.length_append, List.length_cons, List.length_nil, Nat.reduceEqDiff, tArrow] at h2
    show (exW 6 l (bareV l)).length + 64 + wsT E n ≤ wsT E m
    omega

theorem plain_len {E : Env} (hnum : ∀ n, (pk E n).kind = 3 → numV (pk E n).text ≤ 9223372036854775807) {f d n m : Nat} {s : St} (hd : d ≤ 12) (h : plain E f n = .ok s m) : StL E d n m s := by
  unfold plain at h
  by_cases c1 : (pk E n).kind = 1 ∧ (pk E (n + 1)).text = tLet
  · rw [if_pos c1] at h
    obtain ⟨y, n1, h1, h⟩ := bind_ok h
    cases h
    have q := expr_len hnum h1
    have q1 := q.ex 1
    rw [ws_two] at q1
    exact stz_len hd trivial q.1 (by rw [exV_nil]; simp only [List.length_nil]; omega) (by decide)
  rw [if_neg c1] at h
  by_cases c2 : (pk E n).kind = 1 ∧ (pk E (n + 1)).text = tSet
  · rw [if_pos c2] at h
    obtain ⟨y, n1, h1, h⟩ := bind_ok h
    cases h
    have q := expr_len hnum h1
    have q1 := q.ex 1
    rw [ws_two] at q1
    exact stz_len hd trivial q.1 (by rw [exV_nil]; simp only [List.length_nil]; omega) (by decide)
  rw [if_neg c2] at h
  obtain ⟨y, n1, h1, h⟩ := bind_ok h
  have q := (lens hnum f).one _ _ _ _ h1
  by_cases c3 : (pk E n1).text = tArrow
  · rw [if_pos c3] at h
    obtain ⟨z, n2, h2, h⟩ := bind_ok h
    cases h
    have p := expr_len hnum h2
    have q1 := q.ex 6
    have p1 := p.ex 1
    rw [ws_one] at p1
    exact stz_len hd q.1 p.1 (by simp only [List.length_nil]; omega) (by decide)
  rw [if_neg c3] at h
  by_cases c4 : Tr.codeOf y = 7 ∨ Tr.codeOf y = 10
  · rw [if_pos c4] at h
    cases h
    have q1 := q.ex 1
    exact stz_len hd trivial q.1 (by rw [exV_nil]; simp only [List.length_nil]; omega) (by decide)
  rw [if_neg c4] at h
  exact (fail_ok h).elim
theorem talk_len {E : Env} (hnum : ∀ n, (pk E n).kind = 3 → numV (pk E n).text ≤ 9223372036854775807) {f n m : Nat} {s : Nat × B × Ex × Ex} (h : talk E f n = .ok s m) : ExOk s.2.2.1 ∧ ExOk s.2.2.2 ∧ (talkV s.1 s.2.1 s.2.2.1 s.2.2.2).length + wsT E n ≤ wsT E m := by
  unfold talk at h
  by_cases c1 : (pk E n).kind = 1 ∧ (pk E (n + 1)).text = tLet
  · rw [if_pos c1] at h
    obtain ⟨_, n0, h0, h⟩ := bind_ok h
    obtain ⟨y, n1, h1, h⟩ := bind_ok h
    cases h
    have q := (lens hnum f).one _ _ _ _ h1
    have a0 := take_one h0
    subst a0
    have q1 := q.ex 6
    rw [ws_one, ws_two] at q1
    refine ⟨q.1, trivial, ?_⟩
    unfold talkV
    rw [if_neg (show ¬ (10 : Nat) = 3 by decide), if_pos rfl]
    split
    all_goals (simp only [cCaseRecv, cCase, cLetRecv, List.length_append, List.length_cons, List.length_nil]; omega)
  rw [if_neg c1] at h
  obtain ⟨y, n1, h1, h⟩ := bind_ok h
  have q := (lens hnum f).one _ _ _ _ h1
  by_cases c3 : (pk E n1).text = tArrow
  · rw [if_pos c3] at h
    obtain ⟨z, n2, h2, h⟩ := bind_ok h
    cases h
    have p := expr_len hnum h2
    have q1 := q.ex 6
    have p1 := p.ex 1
    rw [ws_one] at p1
    refine ⟨q.1, p.1, ?_⟩
    unfold talkV sentV
    rw [if_pos rfl]
    simp only [cCase, List.length_append, List.length_cons, List.length_nil]
    omega
  rw [if_neg c3] at h
  by_cases c4 : Tr.codeOf y = 10
  · rw [if_pos c4] at h
    cases h
    obtain ⟨q1, q2⟩ := left_len q c4
    refine ⟨q1, trivial, ?_⟩
    unfold talkV
    rw [if_neg (show ¬ (10 : Nat) = 3 by decide), if_pos rfl, if_pos rfl]
    simp only [cCaseRecv, List.length_append, List.length_cons, List.length_nil]
    omega
  rw [if_neg c4] at h
  exact (fail_ok h).elim
theorem open_one {E : Env} {dep n m : Nat} {t : Tok} (h : open_ E dep n = .ok t m) : m = n + 1 ∧ dep < 12 := by
  unfold open_ at h
  by_cases c : (pk E n).text = tLb ∧ 12 ≤ dep
  · rw [if_pos c] at h; exact (fail_ok h).elim
  · rw [if_neg c] at h
    refine ⟨take_one h, ?_⟩
    by_cases c2 : (pk E n).text = tLb
    · exact Nat.lt_of_not_le fun e => c ⟨c2, e⟩
    · unfold take at h
      rw [if_neg c2] at h
      exact (fail_ok h).elim

structure Slens (E : Env) (f : Nat) : Prop where
  block : ∀ dep n x m, block E f dep n = .ok x m → dep ≤ 12 → StsOk x ∧ (stsV (dep + 1) x).length + 256 + wsT E n ≤ wsT E m
  stmts : ∀ dep cs a n0 n x m, stmts E f dep cs a n = .ok x m → dep ≤ 12 → StsL E dep n0 n a → StsL E dep n0 m x
  stmt : ∀ dep n x m, stmt E f dep n = .ok x m → dep ≤ 12 → StL E dep n m x
  cases : ∀ d a n0 n x m, cases E f (d + 1) a n = .ok x m → d + 1 ≤ 12 → CasL E d n0 n a → CasL E d n0 m x
  oneCase : ∀ d n x m, oneCase E f (d + 1) n = .ok x m → d + 1 ≤ 12 → CaL E d n m x

set_option maxHeartbeats 6400000 in
theorem slens {E : Env} (hnum : ∀ n, (pk E n).kind = 3 → numV (pk E n).text ≤ 9223372036854775807) (f : Nat) : Slens E f := by
  induction f with
  | zero =>
    constructor
    · intro _ _ _ _ h; rw [Tr.block] at h; cases h
    · intro _ _ _ _ _ _ _ h; rw [Tr.stmts] at h; cases h
    · intro _ _ _ _ h; rw [Tr.stmt] at h; cases h
    · intro _ _ _ _ _ _ h; rw [Tr.cases] at h; cases h
    · intro _ _ _ _ h; rw [Tr.oneCase] at h; cases h
  | succ f ih =>
    constructor
    · intro dep n x m h hd
      rw [block_eq] at h
      obtain ⟨_, n1, h1, h⟩ := bind_ok h
      obtain ⟨y, n2, h2, h⟩ := bind_ok h
      obtain ⟨_, n3, h3, h⟩ := bind_ok h
      cases h
      obtain ⟨rfl, hlt⟩ := open_one h1
      have a3 := take_one h3
      subst a3
      have q := ih.stmts _ _ .nil (n + 1) _ _ _ h2 (by omega) ⟨trivial, by rw [stsV_nil]; simp⟩
      have q2 := q.2
      rw [ws_one] at q2 ⊢
      exact ⟨q.1, by omega⟩
    · intro dep cs a n0 n x m h hd ha
      rw [stmts_eq] at h
      by_cases c : (pk E n).text = tRb ∨ (cs = true ∧ ((pk E n).text = tCase ∨ (pk E n).text = tDefault))
      · rw [if_pos c] at h
        cases h
        exact ha
      rw [if_neg c] at h
      obtain ⟨y, n1, h1, h⟩ := bind_ok h
      have q := ha.snoc (ih.stmt _ _ _ _ h1 hd)
      by_cases c2 : (pk E n1).text = tRb
      · rw [if_pos c2] at h
        exact ih.stmts _ _ _ n0 _ _ _ h hd q
      · rw [if_neg c2] at h
        obtain ⟨_, n2, h2, h⟩ := bind_ok h
        exact ih.stmts _ _ _ n0 _ _ _ h hd (q.on (Nat.le_of_lt (takeKind_on h2)))
    · intro dep n x m h hd
      rw [stmt_eq] at h
      by_cases c0 : (pk E n).text = tClose
      · rw [if_pos c0] at h
        obtain ⟨y, n1, h1, h⟩ := bind_ok h
        cases h
        have q := (lens hnum f).bracketed _ _ _ _ h1
        have q1 := q.ex 1
        rw [ws_one] at q1
        exact stz_len hd trivial q.1 (by rw [exV_nil]; simp only [List.length_nil]; omega) (by decide)
      rw [if_neg c0] at h
      by_cases c1 : (pk E n).text = tPrint
      · rw [if_pos c1] at h
        obtain ⟨y, n1, h1, h⟩ := bind_ok h
        cases h
        have q := expr_len hnum h1
        have q1 := q.ex 1
        rw [ws_one] at q1
        exact stz_len hd trivial q.1 (by rw [exV_nil]; simp only [List.length_nil]; omega) (by decide)
      rw [if_neg c1] at h
      by_cases c2 : (pk E n).text = tSleep
      · rw [if_pos c2] at h
        obtain ⟨y, n1, h1, h⟩ := bind_ok h
        cases h
        have q := expr_len hnum h1
        have q1 := q.ex 1
        rw [ws_one] at q1
        exact stz_len hd trivial q.1 (by rw [exV_nil]; simp only [List.length_nil]; omega) (by decide)
      rw [if_neg c2] at h
      by_cases c3 : (pk E n).text = tGo
      · rw [if_pos c3] at h
        obtain ⟨t, n1, h1, h⟩ := bind_ok h
        obtain ⟨y, n2, h2, h⟩ := bind_ok h
        cases h
        obtain ⟨rfl, rfl⟩ := takeKind_one h1
        have q := (lens hnum f).call _ _ (n + 1) _ _ _ h2 (by rw [ws_one E (n + 1)]; omega)
        have q1 := q.ex 1
        rw [ws_one] at q1
        exact stz_len hd trivial q.1 (by rw [exV_nil]; simp only [List.length_nil]; omega) (by decide)
      rw [if_neg c3] at h
      by_cases c4 : (pk E n).text = tReturn
      · rw [if_pos c4] at h
        by_cases c : (pk E (n + 1)).kind = 5 ∨ (pk E (n + 1)).text = tRb
        · rw [if_pos c] at h
          cases h
          exact stz_len hd trivial trivial (by rw [exV_nil, exV_nil, ws_one]; simp only [List.length_nil]; omega) (by decide)
        · rw [if_neg c] at h
          obtain ⟨y, n1, h1, h⟩ := bind_ok h
          cases h
          have q := expr_len hnum h1
          have q1 := q.ex 1
          rw [ws_one] at q1
          exact stz_len hd trivial q.1 (by rw [exV_nil]; simp only [List.length_nil]; omega) (by decide)
      rw [if_neg c4] at h
      by_cases c5 : (pk E n).text = tBreak
      · rw [if_pos c5] at h
        cases h
        exact stz_len hd trivial trivial (by rw [exV_nil, exV_nil, ws_one]; simp only [List.length_nil]; omega) (by decide)
      rw [if_neg c5] at h
      by_cases c6 : (pk E n).text = tContinue
      · rw [if_pos c6] at h
        cases h
        exact stz_len hd trivial trivial (by rw [exV_nil, exV_nil, ws_one]; simp only [List.length_nil]; omega) (by decide)
      rw [if_neg c6] at h
      by_cases c7 : (pk E n).text = tIf
      · rw [if_pos c7] at h
        obtain ⟨y, n1, h1, h⟩ := bind_ok h
        obtain ⟨a, n2, h2, h⟩ := bind_ok h
        have q := expr_len hnum h1
        have q1 := q.ex 1
        rw [ws_one] at q1
        obtain ⟨p1, p2⟩ := ih.block _ _ _ _ h2 hd
        by_cases c : (pk E n2).text = tElse
        · rw [if_pos c] at h
          obtain ⟨b, n3, h3, h⟩ := bind_ok h
          cases h
          obtain ⟨r1, r2⟩ := ih.block _ _ _ _ h3 hd
          rw [ws_one] at r2
          refine ⟨⟨trivial, q.1, p1, r1, trivial⟩, ?_⟩
          rw [stV]
          simp only [reduceIte, Nat.reduceEqDiff, List.length_append, lineV_len, cIf, cOpen, cEnd, List.length_cons, List.length_nil]
          split
          all_goals (simp only [List.length_append, lineV_len, cElse, List.length_cons, List.length_nil]; omega)
        · rw [if_neg c] at h
          cases h
          refine ⟨⟨trivial, q.1, p1, trivial, trivial⟩, ?_⟩
          rw [stV]
          simp only [reduceIte, Nat.reduceEqDiff, List.length_append, lineV_len, cIf, cOpen, cEnd, List.length_cons, List.length_nil, Sts.len]
          omega
      rw [if_neg c7] at h
      by_cases c8 : (pk E n).text = tFor
      · rw [if_pos c8] at h
        obtain ⟨y, n1, h1, h⟩ := bind_ok h
        obtain ⟨a, n2, h2, h⟩ := bind_ok h
        cases h
        have q := expr_len hnum h1
        have q1 := q.ex 1
        rw [ws_one] at q1
        obtain ⟨p1, p2⟩ := ih.block _ _ _ _ h2 hd
        refine ⟨⟨trivial, q.1, p1, trivial, trivial⟩, ?_⟩
        rw [stV]
        simp only [reduceIte, Nat.reduceEqDiff, List.length_append, lineV_len, cFor, cOpen, cEnd, List.length_cons, List.length_nil]
        omega
      rw [if_neg c8] at h
      by_cases c9 : (pk E n).text = tSelect
      · rw [if_pos c9] at h
        obtain ⟨_, n1, h1, h⟩ := bind_ok h
        obtain ⟨a, n2, h2, h⟩ := bind_ok h
        obtain ⟨_, n3, h3, h⟩ := bind_ok h
        cases h
        obtain ⟨rfl, hlt⟩ := open_one h1
        have a3 := take_one h3
        subst a3
        have q := ih.cases _ .nil (n + 1 + 1) _ _ _ h2 (by omega) ⟨trivial, by rw [casV_nil]; simp⟩
        have q2 := q.2
        rw [ws_one, ws_one] at q2
        refine ⟨⟨trivial, trivial, trivial, trivial, q.1⟩, ?_⟩
        rw [stV, ws_one]
        simp only [reduceIte, Nat.reduceEqDiff, List.length_append, lineV_len, cSelect, cEnd, List.length_cons, List.length_nil]
        omega
      rw [if_neg c9] at h
      exact plain_len hnum hd h
    · intro d a n0 n x m h hd ha
      rw [cases_eq] at h
      by_cases c : (pk E n).text = tRb
      · rw [if_pos c] at h
        cases h
        exact ha
      rw [if_neg c] at h
      by_cases c2 : 6 ≤ a.len
      · rw [if_pos c2] at h; exact (fail_ok h).elim
      rw [if_neg c2] at h
      obtain ⟨y, n1, h1, h⟩ := bind_ok h
      exact ih.cases _ _ n0 _ _ _ h hd (ha.snoc (ih.oneCase _ _ _ _ h1 hd))
    · intro d n x m h hd
      rw [oneCase_eq] at h
      by_cases c : (pk E n).text = tDefault
      · rw [if_pos c] at h
        obtain ⟨_, n1, h1, h⟩ := bind_ok h
        obtain ⟨l, n2, h2, h⟩ := bind_ok h
        cases h
        have a1 := take_one h1
        subst a1
        have q := ih.stmts _ _ .nil (n + 1 + 1) _ _ _ h2 hd ⟨trivial, by rw [stsV_nil]; simp⟩
        refine ⟨⟨trivial, trivial, q.1⟩, ?_⟩
        have q2 := q.2
        rw [ws_one, ws_one] at q2
        rw [caV, List.length_append, lineV_len]
        unfold talkV
        rw [if_neg (show ¬ (40 : Nat) = 3 by decide), if_neg (show ¬ (40 : Nat) = 10 by decide)]
        simp only [cDefault, cColon, List.length_append, List.length_cons, List.length_nil]
        omega
      rw [if_neg c] at h
      obtain ⟨_, n1, h1, h⟩ := bind_ok h
      obtain ⟨t, n2, h2, h⟩ := bind_ok h
      obtain ⟨_, n3, h3, h⟩ := bind_ok h
      obtain ⟨l, n4, h4, h⟩ := bind_ok h
      cases h
      have a1 := take_one h1
      subst a1
      have a3 := take_one h3
      subst a3
      obtain ⟨b1, b2, b3⟩ := talk_len hnum h2
      have q := ih.stmts _ _ .nil (n2 + 1) _ _ _ h4 hd ⟨trivial, by rw [stsV_nil]; simp⟩
      refine ⟨⟨b1, b2, q.1⟩, ?_⟩
      have q2 := q.2
      rw [ws_one] at q2 b3
      rw [caV, List.length_append, lineV_len]
      simp only [cColon, List.length_append, List.length_cons, List.length_nil]
      omega
end Go.Proofs.YtgonbmcojjcabaaGreatDoor

namespace Go.Proofs.YtgonbmcojjcabaaGreatDoor
open Go.RowKit Lx Tr

theorem params_len {E : Env} : ∀ (f : Nat) (acc : List Pa) (n0 n : Nat) (x : List Pa) (m : Nat), params E f acc n = .ok x m → (parL true acc).length + wsT E n0 ≤ wsT E n → (parL true x).length + wsT E n0 ≤ wsT E m
  | 0, _, _, _, _, _, h, _ => by rw [params] at h; cases h
  | f + 1, acc, n0, n, x, m, h, ha => by
    rw [paramsQ_eq] at h
    obtain ⟨t, n1, h1, h⟩ := bind_ok h
    obtain ⟨rfl, rfl⟩ := takeKind_one h1
    have hs : (parL true (acc ++ [⟨(pk E n).text, kindV (pk E (n + 1)).text, (pk E n).at_⟩])).length + wsT E n0 ≤ wsT E (n + 2) := by
      have hk := kindB_len (kindV (pk E (n + 1)).text)
      rw [parL_snoc, ws_two]
      unfold paV
      split
      all_goals (simp only [List.length_append, List.length_cons, List.length_nil]; omega)
    by_cases q : kindV (pk E (n + 1)).text = 0
    · rw [if_pos q] at h; exact (fail_ok h).elim
    rw [if_neg q] at h
    by_cases q2 : (pk E (n + 1 + 1)).text = tComma
    · rw [if_pos q2] at h
      exact params_len f _ n0 _ _ _ h (Nat.le_trans hs (by have := ws_mono E (show n + 2 ≤ n + 1 + 2 by omega); omega))
    · rw [if_neg q2] at h
      obtain ⟨_, n2, h2, h⟩ := bind_ok h
      cases h
      have a2 := take_one h2
      subst a2
      exact Nat.le_trans hs (by have := ws_mono E (show n + 2 ≤ n + 1 + 1 + 1 by omega); omega)
theorem function_len {E : Env} (hnum : ∀ n, (pk E n).kind = 3 → numV (pk E n).text ≤ 9223372036854775807) {f n m : Nat} {g : Fu} (h : Tr.function E f n = .ok g m) : StsOk g.body ∧ (fuV g).length + wsT E n ≤ wsT E m := by
  unfold Tr.function at h
  obtain ⟨_, n1, h1, h⟩ := bind_ok h
  obtain ⟨t, n2, h2, h⟩ := bind_ok h
  obtain ⟨_, n3, h3, h⟩ := bind_ok h
  obtain ⟨ps, n4, h4, h⟩ := bind_ok h
  obtain ⟨b, n5, h5, h⟩ := bind_ok h
  cases h
  have a1 := take_one h1
  subst a1
  obtain ⟨rfl, rfl⟩ := takeKind_one h2
  have a3 := take_one h3
  subst a3
  have hp : (parL true ps).length + wsT E (n + 1 + 1 + 1) ≤ wsT E n4 := by
    by_cases q : (pk E (n + 1 + 1 + 1)).text = tRp
    · rw [if_pos q] at h4
      cases h4
      have := ws_mono E (show n + 1 + 1 + 1 ≤ n + 1 + 1 + 1 + 1 by omega)
      show ([] : Lx.B).length + _ ≤ _
      simp only [List.length_nil]
      omega
    · rw [if_neg q] at h4
      exact params_len f [] _ _ _ _ h4 (by show ([] : Lx.B).length + _ ≤ _; simp)
  obtain ⟨q1, q2⟩ := (slens hnum f).block _ _ _ _ h5 (by omega)
  refine ⟨q1, ?_⟩
  have hk := kindB_len (kindV (pk E n4).text)
  have q3 : wsT E n4 ≤ wsT E (if kindV (pk E n4).text = 0 then n4 else n4 + 1) := by
    split
    · exact Nat.le_refl _
    · rw [ws_one]; omega
  rw [ws_one, ws_one, ws_one] at hp
  unfold fuV
  split
  all_goals (simp only [List.length_append, lineV_len, cFunc, cEnd, List.length_cons, List.length_nil]; simp only [Nat.zero_add] at q2; omega)
theorem glV_len (g : Gl) : (glV g).length = g.name.length + 5 := by
  unfold glV
  simp only [lineV_len, cVar, List.length_append, List.length_cons, List.length_nil]
  omega

theorem program_len {E : Env} (hnum : ∀ n, (pk E n).kind = 3 → numV (pk E n).text ≤ 9223372036854775807) : ∀ (f : Nat) (src : Src) (n : Nat) (x : Src) (m : Nat), Tr.program E f src n = .ok x m → n ≤ E.toks.length → SrcOk src → (printV src).length ≤ wsT E n → SrcOk x ∧ (printV x).length ≤ wsT E E.toks.length
  | 0, _, _, _, _, h, _, _, _ => by rw [Tr.program] at h; cases h
  | f + 1, src, n, x, m, h, hn, hok, hl => by
    rw [programQ_eq] at h
    by_cases c0 : E.toks.length ≤ n
    · rw [if_pos c0] at h
      cases h
      have : n = E.toks.length := by omega
      rw [← this]
      exact ⟨hok, hl⟩
    rw [if_neg c0] at h
    by_cases c1 : (pk E n).text = tVar
    · rw [if_pos c1] at h
      by_cases c2 : 8 ≤ src.globals.length
      · rw [if_pos c2] at h; exact (fail_ok h).elim
      rw [if_neg c2] at h
      obtain ⟨t, n1, h1, h⟩ := bind_ok h
      obtain ⟨_, n2, h2, h⟩ := bind_ok h
      obtain ⟨rfl, rfl⟩ := takeKind_one h1
      obtain ⟨rfl, _⟩ := takeKind_one h2
      obtain ⟨b2, _⟩ := takeKind_lt (by decide) h2
      refine program_len hnum f _ _ _ _ h (by omega) hok ?_
      rw [ws_one, ws_one, ws_one]
      unfold printV at hl ⊢
      simp only [List.flatMap_append, List.flatMap_cons, List.flatMap_nil, List.length_append, List.length_nil] at hl ⊢
      have hg := glV_len ⟨(pk E (n + 1)).text, (pk E (n + 1)).at_⟩
      simp only at hg
      omega
    rw [if_neg c1] at h
    by_cases c2 : (pk E n).text = tFunc
    · rw [if_pos c2] at h
      by_cases c3 : 12 ≤ src.funcs.length
      · rw [if_pos c3] at h; exact (fail_ok h).elim
      rw [if_neg c3] at h
      obtain ⟨g, n1, h1, h⟩ := bind_ok h
      obtain ⟨_, n2, h2, h⟩ := bind_ok h
      obtain ⟨q1, q2⟩ := function_len hnum h1
      obtain ⟨rfl, _⟩ := takeKind_one h2
      obtain ⟨b2, _⟩ := takeKind_lt (by decide) h2
      refine program_len hnum f _ _ _ _ h (by omega) (fun g' hg' => ?_) ?_
      · rcases List.mem_append.1 hg' with e | e
        · exact hok g' e
        · rw [List.mem_singleton.1 e]; exact q1
      rw [ws_one]
      unfold printV at hl ⊢
      simp only [List.flatMap_append, List.flatMap_cons, List.flatMap_nil, List.length_append, List.length_nil] at hl ⊢
      omega
    rw [if_neg c2] at h
    exact (fail_ok h).elim

/-- The weight of tokens in a row; by the text. -/
def wlT : List Tok → Nat
  | [] => 0
  | t :: ts => (t.text.length + 128) + wlT ts
theorem wlT_snoc : ∀ (l : List Tok) (t : Tok), wlT (l ++ [t]) = wlT l + (t.text.length + 128)
  | [], t => by simp [wlT]
  | x :: l, t => by show (x.text.length + 128) + wlT (l ++ [t]) = _; rw [wlT_snoc l t, wlT]; omega
theorem wsT_row (ts : List Tok) (e : Nat) : ∀ n, n ≤ ts.length → wsT ⟨ts, e⟩ n = wlT (ts.take n)
  | 0, _ => by rw [List.take_zero]; rfl
  | n + 1, h => by
    have h1 : ts[n]? = some ts[n] := List.getElem?_eq_getElem (by omega)
    rw [List.take_add_one, h1, Option.toList_some, wlT_snoc, ws_one, wsT_row ts e n (by omega)]
    unfold pk
    rw [h1]
    rfl
theorem wl_text : ∀ (l : Lx.B) (a : Nat) (may : Bool) (ts : List Tok), lx l a may = (ts, none) → wlT ts ≤ 129 * l.length + 128 := by
  refine lx_induct (fun l _ _ ts => wlT ts ≤ 129 * l.length + 128) ?_ ?_ ?_
  · intro a may
    unfold endV
    split
    · simp [wlT]
    · simp [wlT]
  · intro l a may n ts _ _ _ _ _ ih
    rw [List.length_drop] at ih
    omega
  · intro l a may k n ts hl hs h1 h2 _ ih
    rw [List.length_drop] at ih
    rw [wlT]
    simp only [List.length_take]
    omega
theorem nums_text : ∀ (l : Lx.B) (a : Nat) (may : Bool) (ts : List Tok), lx l a may = (ts, none) → ∀ t ∈ ts, t.kind = 3 → numV t.text ≤ 9223372036854775807 := by
  refine lx_induct (fun _ _ _ ts => ∀ t ∈ ts, t.kind = 3 → numV t.text ≤ 9223372036854775807) ?_ ?_ ?_
  · intro a may t ht hk
    unfold endV at ht
    split at ht
    · simp at ht; subst ht; cases hk
    · cases ht
  · intro l a may n ts _ _ _ _ _ ih
    exact ih
  · intro l a may k n ts hl hs h1 h2 _ ih t ht hk
    rcases List.mem_cons.1 ht with rfl | ht
    · have hk' : k = 3 := hk
      subst hk'
      exact Nat.le_of_not_lt (of_decide_eq_false (tok3 hl hs).2.1)
    · exact ih t ht hk
/-- What a text's tree is like. -/
theorem text_len {l : Lx.B} {ts : List Tok} {e m : Nat} {s : Src} (hts : lx l 0 false = (ts, none)) (h : Ev (fun f => Tr.program ⟨ts, e⟩ f ⟨[], []⟩ 0) (.ok s m)) : SrcOk s ∧ (printV s).length ≤ 129 * l.length + 128 := by
  obtain ⟨_, f0, h⟩ := h
  have hn := nums_text _ _ _ _ hts
  obtain ⟨h1, h2⟩ := program_len (E := ⟨ts, e⟩) (fun n hk => by
    have hlt := pk_kind_lt (E := ⟨ts, e⟩) (n := n) (by rw [hk]; decide)
    have h1 : ts[n]? = some ts[n] := List.getElem?_eq_getElem hlt
    have h2 : pk ⟨ts, e⟩ n = ts[n] := by unfold pk; rw [h1]; rfl
    rw [h2] at hk ⊢
    exact hn _ (List.getElem_mem hlt) hk) f0 ⟨[], []⟩ 0 s m (h f0 (Nat.le_refl _)) (Nat.zero_le _) (fun g hg => by cases hg) (Nat.zero_le _)
  refine ⟨h1, Nat.le_trans h2 ?_⟩
  have := wl_text _ _ _ _ hts
  rw [show (⟨ts, e⟩ : Env).toks.length = ts.length from rfl, wsT_row ts e _ (Nat.le_refl _), List.take_length]
  exact this
end Go.Proofs.YtgonbmcojjcabaaGreatDoor

namespace Go.Proofs.YtgonbmcojjcabaaGreatDoor
open Go.RowKit Lx Tr

def smallL : Lx.B := [118, 97, 114, 32, 103, 10, 102, 117, 110, 99, 32, 109, 97, 105, 110, 40, 41, 32, 123, 10, 32, 32, 99, 32, 58, 61, 32, 109, 97, 107, 101, 40, 49, 41, 10, 32, 32, 103, 111, 32, 102, 40, 99, 44, 32, 50, 41, 10, 32, 32, 105, 102, 32, 60, 45, 99, 32, 43, 32, 51, 32, 42, 32, 40, 103, 32, 45, 32, 49, 41, 32, 60, 32, 52, 32, 123, 10, 32, 32, 32, 32, 112, 114, 105, 110, 116, 32, 53, 10, 32, 32, 125, 10, 125, 10, 102, 117, 110, 99, 32, 102, 40, 99, 32, 99, 104, 97, 110, 44, 32, 110, 32, 105, 110, 116, 41, 32, 105, 110, 116, 32, 123, 10, 32, 32, 99, 32, 60, 45, 32, 110, 10, 32, 32, 114, 101, 116, 117, 114, 110, 32, 110, 10, 125, 10]
def smallIs (s : Src) : Bool := s.globals.length == 1 && (s.funcs.length == 2 && ((s.funcs.headD ⟨[], 0, [], 0, .nil⟩).body.len == 3 && printV s == smallL))
def smallT : Bool := match lx smallL 0 false with
  | (ts, none) => match Tr.program ⟨ts, 145⟩ 200 ⟨[], []⟩ 0 with
    | .ok s _ => smallIs s
    | _ => false
  | _ => false
theorem small_t : smallT = true := by kernel_rfl
theorem small_has : ∃ ts s m, lx smallL 0 false = (ts, none) ∧ Tr.program ⟨ts, 145⟩ 200 ⟨[], []⟩ 0 = .ok s m ∧ smallIs s = true := by
  have h := small_t
  unfold smallT at h
  split at h
  · rename_i ts hts
    split at h
    · rename_i s m hs
      exact ⟨ts, s, m, hts, hs, h⟩
    · cases h
  · cases h
theorem headD_E {l l' : List Fu} (h : l'.map fuE = l.map fuE) (d : Fu) : fuE (l'.headD d) = fuE (l.headD d) := by
  cases l with
  | nil => cases l' with
    | nil => rfl
    | cons y ys => cases h
  | cons x xs => cases l' with
    | nil => cases h
    | cons y ys =>
      rw [List.map_cons, List.map_cons] at h
      injection h
/-- What is said of the tree of this program. -/
theorem small_says {r : Res Src} {ts : List Tok} (hts : lx smallL 0 false = (ts, none)) (hr : Ev (fun f => Tr.program ⟨ts, 145⟩ f ⟨[], []⟩ 0) r) :
    ∃ s m, r = .ok s m ∧ s.globals.length = 1 ∧ s.funcs.length = 2 ∧ (s.funcs.headD ⟨[], 0, [], 0, .nil⟩).body.len = 3 ∧ printV s = smallL := by
  obtain ⟨ts', s, m, h1, h2, h3⟩ := small_has
  rw [hts] at h1
  cases h1
  simp only [smallIs, Bool.and_eq_true, beq_iff_eq] at h3
  obtain ⟨a1, a2, a3, a4⟩ := h3
  obtain ⟨s', m', rfl, e1, e2⟩ := program_more h2 (by omega) (by omega) hr
  refine ⟨s', m', rfl, ?_, ?_, ?_, ?_⟩
  · rw [← a1]; simpa using congrArg List.length e1
  · rw [← a2]; simpa using congrArg List.length e2
  · have h4 := congrArg (fun g : Fu => g.body.len) (headD_E e2 ⟨[], 0, [], 0, .nil⟩)
    simp only [fuE, stsE_len] at h4
    rw [h4, a3]
  · rw [printV_E e1 e2, a4]
end Go.Proofs.YtgonbmcojjcabaaGreatDoor
