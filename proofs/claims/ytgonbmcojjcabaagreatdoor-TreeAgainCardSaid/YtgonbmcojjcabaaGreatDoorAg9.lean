/-
  Texts of one proof, in build order: The printer's line. | How statements are written, as functions of the tree. | The printer's stmt: statements of one line. | The printer's stmt: let, set; return; what a case talks. | The printer: what a case talks. | The printer's stmts, by what is asked of stmt. | The printer's choice, and for, by what is asked of stmts.
-/
import Derived.Test.YtgonbmcojjcabaaGreatDoorAg8
import Derived.Deep.RegionHeld
namespace Go.Proofs.YtgonbmcojjcabaaGreatDoor
open Go.RowKit Lx Tr
variable {w w' : World}

def padV : Nat → Lx.B
  | 0 => []
  | n + 1 => padV n ++ [32, 32]
theorem padV_len : ∀ n, (padV n).length = 2 * n
  | 0 => rfl
  | n + 1 => by show (padV n ++ [32, 32]).length = _; rw [List.length_append, padV_len n]; show 2 * n + 2 = _; omega
/-- A line that stands so deep. -/
def lineV (d : Nat) (t : Lx.B) : Lx.B := padV d ++ (t ++ [10])
theorem lineV_len (d : Nat) (t : Lx.B) : (lineV d t).length = 2 * d + (t.length + 1) := by unfold lineV; rw [List.length_append, padV_len, List.length_append]; rfl
theorem Others.heap {b g : Nat} {xs : Array Value} {e : TypeId} {fz : Nat × Nat} (h : Others b w w') (hg : g ≠ b) (he : e ≠ 5) (hx : w.heap[g]? = some (Obj.cells xs e fz)) : w'.heap[g]? = some (Obj.cells xs e fz) := h g xs e fz hg he hx

set_option maxRecDepth 100000 in
set_option maxHeartbeats 6400000 in
theorem line_all (B b g cap d : Nat) (l : List UInt8) (ps : List ByteArray) (xs : Array Value) (fz : Nat × Nat) (w : World) (h : PC B b l w) (hB : B ≤ w.heap.size) (hg : w.heap[g]? = some (Obj.cells xs 9 fz)) (hgb : g ≠ b) (hx : ∀ j x, ps[j]? = some x → w.cell? ⟨g, j, none⟩ = some (.string x)) (hlen : l.length + (lineV d (catV ps)).length ≤ 1000000) (hn : ps.length ≤ 10000) :
    Writes B b l (lineV d (catV ps)) w 35 #[.pointer (some ⟨b, 0, none⟩), .int .i64 (d : Nat), .slice (some ⟨g, 0, none⟩) ps.length cap] := by
  unfold Writes
  rw [lineV_len] at hlen
  have hd : d ≤ 1000000 := by omega
  have HI0 : Hid (PC B b (l ++ padV 0) w) := Lib.hid (by show PC B b (l ++ []) w; rw [List.append_nil]; exact h)
  have HB := Lib.hid hB
  have HG := Lib.hid hg
  have HX := Lib.hid hx
  have HGB := Lib.hid hgb
  have HLEN := Lib.hid hlen
  have HN := Lib.hid hn
  clear h hB hg hgb hx hlen hn
  go_enter Tryz.func35, Tryz.ntmps35
  go_wp2_with fail
  go_loopw [7] (fun i wr => ∃ k : Nat, k ≤ d ∧ i = .int .i64 k ∧ PC B b (l ++ padV k) wr ∧ Below B w wr ∧ Others b w wr) (fun i _ => d - (intOf i).toNat)
  case atStart => exact ⟨0, Nat.zero_le _, rfl, HI0.out, Below.refl _ _, Others.refl _ _⟩
  case round =>
    obtain ⟨k, hk, rfl, hp, hb, ho⟩ := hrel
    have HP := Lib.hid hp
    have HBL := Lib.hid hb
    have HO := Lib.hid ho
    clear hp hb ho
    by_cases hlt : k < d
    · have hki : (k : Int) < (d : Int) := by omega
      have hw : IntKind.i64.wrap ((k : Int) + 1) = (k : Int) + 1 := IntWalk.i64_in _ (by omega)
      have HPUT := Lib.hid (put_new B b _ [⟨#[32, 32]⟩] wr HP.out (Nat.le_trans HB.out HBL.out.size) (by have := HLEN.out; rw [List.length_append, padV_len]; show _ + 2 ≤ _; omega) (by simp))
      go_wp2_with fail
      refine HPUT.out.mono ?_
      rintro e w2 ⟨rfl, hp2, hb2, ho2⟩
      have hp2' : PC B b (l ++ padV (k + 1)) w2 := by
        have e : l ++ padV (k + 1) = l ++ padV k ++ catV [⟨#[32, 32]⟩] := by rw [List.append_assoc]; rfl
        rw [e]; exact hp2
      have HP2 := Lib.hid hp2'
      have HB2 := Lib.hid (HBL.out.trans hb2)
      have HO2 := Lib.hid (HO.out.trans ho2)
      clear hp2 hp2' hb2 ho2
      go_wp2_with fail
      exact ⟨⟨k + 1, by omega, by simp, HP2.out, HB2.out, HO2.out⟩, by simp [intOf]; omega⟩
    · have hki : ¬ (k : Int) < (d : Int) := by omega
      have hkk : k = d := by omega
      have h1 := HP.out
      rw [hkk] at h1
      have hgw := HO.out.heap HGB.out (by decide) HG.out
      have HPUT := Lib.hid (put_all B b g cap _ ps xs fz wr h1 (Nat.le_trans HB.out HBL.out.size) hgw HGB.out (fun j x hj => by have := HX.out j x hj; rw [Lib.cell_of_heap HG.out] at this; rw [Lib.cell_of_heap hgw]; exact this) (by have := HLEN.out; rw [List.length_append, padV_len]; omega) HN.out)
      clear h1 hgw hkk
      go_wp2_with fail
      refine HPUT.out.mono ?_
      rintro e w2 ⟨rfl, h2, hb2, ho2⟩
      have HPUT2 := Lib.hid (put_new B b _ [⟨#[10]⟩] w2 h2 (Nat.le_trans HB.out (HBL.out.trans hb2).size) (by have := HLEN.out; rw [List.length_append, List.length_append, padV_len]; show _ + 1 ≤ _; omega) (by simp))
      have HB2 := Lib.hid (HBL.out.trans hb2)
      have HO2 := Lib.hid (HO.out.trans ho2)
      clear h2 hb2 ho2
      go_wp2_with fail
      refine HPUT2.out.mono ?_
      rintro e w3 ⟨rfl, h3, hb3, ho3⟩
      have H3 : Hid (PC B b (l ++ lineV d (catV ps)) w3) := Lib.hid (by
        have e : l ++ lineV d (catV ps) = l ++ padV d ++ catV ps ++ catV [⟨#[10]⟩] := by unfold lineV; simp only [List.append_assoc]; rfl
        rw [e]; exact h3)
      have HB3 := Lib.hid (HB2.out.trans hb3)
      have HO3 := Lib.hid (HO2.out.trans ho3)
      clear h3 hb3 ho3
      go_wp2_with fail
      go_end0
      exact ⟨rfl, H3.out, HB3.out, HO3.out⟩
/-- A line of texts that are written out. -/
theorem line_new (B b d : Nat) (l : List UInt8) (ps : List ByteArray) (w : World) (h : PC B b l w) (hB : B ≤ w.heap.size) (hlen : l.length + (lineV d (catV ps)).length ≤ 1000000) (hn : ps.length ≤ 10000) :
    Calls Tryz.prog 35 #[.pointer (some ⟨b, 0, none⟩), .int .i64 (d : Nat), .slice (some ⟨w.heap.size, 0, none⟩) ps.length ps.length] (w.alloc (.cells (ps.map Value.string).toArray 9)) fun e w' => e = .returned (.tuple #[]) ∧ PC B b (l ++ lineV d (catV ps)) w' ∧ Below B w w' ∧ Others b w w' := by
  have hb := fresh_alloc w (ps.map Value.string).toArray 9
  have hlt := h.1.lt
  refine (line_all B b w.heap.size ps.length d l ps (ps.map Value.string).toArray (0, 0) _ (h.fresh hb) (Nat.le_trans hB hb.size) (heap_alloc_new w _) (by omega) (fun j x hj => cell_new _ _ _ j _ (by simp [hj]) rfl) hlen hn).mono ?_
  rintro e w' ⟨rfl, h1, h2, h3⟩
  exact ⟨rfl, h1, (hb.mono hB).trans h2, (Others.of_new hb).trans h3⟩
end Go.Proofs.YtgonbmcojjcabaaGreatDoor

namespace Go.Proofs.YtgonbmcojjcabaaGreatDoor
open Go.RowKit Lx Tr

/-- Words and signs as they are written. -/
def cLet : Lx.B := [32, 58, 61, 32]
def cSet : Lx.B := [32, 61, 32]
def cClose : Lx.B := [99, 108, 111, 115, 101, 40]
def cRp : Lx.B := [41]
def cPrint : Lx.B := [112, 114, 105, 110, 116, 32]
def cSleep : Lx.B := [115, 108, 101, 101, 112, 32]
def cGo : Lx.B := [103, 111, 32]
def cReturn0 : Lx.B := [114, 101, 116, 117, 114, 110]
def cReturn : Lx.B := [114, 101, 116, 117, 114, 110, 32]
def cBreak : Lx.B := [98, 114, 101, 97, 107]
def cContinue : Lx.B := [99, 111, 110, 116, 105, 110, 117, 101]
def cIf : Lx.B := [105, 102, 32]
def cOpen : Lx.B := [32, 123]
def cElse : Lx.B := [125, 32, 101, 108, 115, 101, 32, 123]
def cFor : Lx.B := [102, 111, 114, 32]
def cEnd : Lx.B := [125]
def cSelect : Lx.B := [115, 101, 108, 101, 99, 116, 32, 123]
def cCase : Lx.B := [99, 97, 115, 101, 32]
def cCaseRecv : Lx.B := [99, 97, 115, 101, 32, 60, 45]
def cLetRecv : Lx.B := [32, 58, 61, 32, 60, 45]
def cDefault : Lx.B := [100, 101, 102, 97, 117, 108, 116]
def cColon : Lx.B := [58]
def giveV (d : Nat) (val : Ex) : Lx.B := match val with
  | .nil => lineV d cReturn0
  | x => lineV d (cReturn ++ exV 1 x)
/-- What a case sends or receives. -/
def talkV (code : Nat) (name : Lx.B) (dst val : Ex) : Lx.B :=
  if code = 3 then cCase ++ sentV dst val
  else if code = 10 then (if name = [] then cCaseRecv ++ exV 6 dst else cCase ++ (name ++ (cLetRecv ++ exV 6 dst)))
  else cDefault
mutual
def stV : Nat → St → Lx.B
  | d, .mk code _ name dst val thn els cases =>
    if code = 1 then lineV d (name ++ (cLet ++ exV 1 val))
    else if code = 2 then lineV d (name ++ (cSet ++ exV 1 val))
    else if code = 3 then lineV d (sentV dst val)
    else if code = 4 then lineV d (cClose ++ (exV 1 val ++ cRp))
    else if code = 5 then lineV d (cPrint ++ exV 1 val)
    else if code = 6 then lineV d (cSleep ++ exV 1 val)
    else if code = 7 then lineV d (cGo ++ exV 1 val)
    else if code = 8 then giveV d val
    else if code = 9 then lineV d cBreak
    else if code = 10 then lineV d cContinue
    else if code = 11 then lineV d (exV 1 val)
    else if code = 12 then lineV d (cIf ++ (exV 1 val ++ cOpen)) ++ (stsV (d + 1) thn ++ ((if els.len = 0 then [] else lineV d cElse ++ stsV (d + 1) els) ++ lineV d cEnd))
    else if code = 13 then lineV d (cFor ++ (exV 1 val ++ cOpen)) ++ (stsV (d + 1) thn ++ lineV d cEnd)
    else if code = 14 then lineV d cSelect ++ (casV d cases ++ lineV d cEnd)
    else []
def stsV : Nat → Sts → Lx.B
  | _, .nil => []
  | d, .cons x xs => stV d x ++ stsV d xs
def caV : Nat → Ca → Lx.B
  | d, .mk code _ name dst val body => lineV d (talkV code name dst val ++ cColon) ++ stsV (d + 1) body
def casV : Nat → Cas → Lx.B
  | _, .nil => []
  | d, .cons x xs => caV d x ++ casV d xs
end
mutual
/-- Numbers that a text can have. -/
def StOk : St → Prop
  | .mk _ _ _ dst val thn els cases => ExOk dst ∧ ExOk val ∧ StsOk thn ∧ StsOk els ∧ CasOk cases
def StsOk : Sts → Prop
  | .nil => True
  | .cons x xs => StOk x ∧ StsOk xs
def CaOk : Ca → Prop
  | .mk _ _ _ dst val body => ExOk dst ∧ ExOk val ∧ StsOk body
def CasOk : Cas → Prop
  | .nil => True
  | .cons x xs => CaOk x ∧ CasOk xs
end
end Go.Proofs.YtgonbmcojjcabaaGreatDoor

namespace Go.Proofs.YtgonbmcojjcabaaGreatDoor
open Go.RowKit Lx Tr
variable {w w' : World}

theorem alloc_size (w : World) (o : Obj) : (w.alloc o).heap.size = w.heap.size + 1 := Array.size_push _ ..

set_option maxRecDepth 100000 in
set_option maxHeartbeats 12800000 in
theorem stmt_break {B b d : Nat} {at_ : Int} {name : ByteArray} {tq vq no eo co : Option Addr} {nn nc en ec cn cc : Nat} (l : List UInt8) (w : World) (h : PC B b l w) (hB : B ≤ w.heap.size) (hlen : l.length + (lineV d (cBreak)).length ≤ 1000000) :
    Writes B b l (lineV d (cBreak)) w 97 #[.pointer (some ⟨b, 0, none⟩), .agg #[.int .i64 9, .int .i64 at_, .string name, .pointer tq, .pointer vq, .slice no nn nc, .slice eo en ec, .slice co cn cc], .int .i64 (d : Nat)] := by
  unfold Writes
  have hb := fresh_alloc w #[.int .i64 9, .int .i64 at_, .string name, .pointer tq, .pointer vq, .slice no nn nc, .slice eo en ec, .slice co cn cc] 49
  have hcat : catV [mkT cBreak] = cBreak := List.append_nil _
  have HL2 := Lib.hid (line_new B b d l [mkT cBreak] (w.alloc (.cells #[.int .i64 9, .int .i64 at_, .string name, .pointer tq, .pointer vq, .slice no nn nc, .slice eo en ec, .slice co cn cc] 49)) (h.fresh hb) (Nat.le_trans hB hb.size) (by rw [hcat]; exact hlen) (by simp))
  rw [hcat, alloc_size w] at HL2
  have HB2 := Lib.hid (hb.mono hB)
  have HO2 : Hid (Others b w (w.alloc (.cells #[.int .i64 9, .int .i64 at_, .string name, .pointer tq, .pointer vq, .slice no nn nc, .slice eo en ec, .slice co cn cc] 49))) := Lib.hid (Others.of_new hb)
  clear h hB hlen hb hcat
  go_enter Tryz.func97, Tryz.ntmps97
  go_wp2_with fail
  refine HL2.out.mono ?_
  rintro e w3 ⟨rfl, h3, hb3, ho3⟩
  have H3 := Lib.hid h3
  have HB3 := Lib.hid (HB2.out.trans hb3)
  have HO3 := Lib.hid (HO2.out.trans ho3)
  clear h3 hb3 ho3
  go_wp2_with fail
  try simp only [Exit.inBlock, Exit.then]
  go_end0
  exact ⟨rfl, H3.out, HB3.out, HO3.out⟩
set_option maxRecDepth 100000 in
set_option maxHeartbeats 12800000 in
theorem stmt_continue {B b d : Nat} {at_ : Int} {name : ByteArray} {tq vq no eo co : Option Addr} {nn nc en ec cn cc : Nat} (l : List UInt8) (w : World) (h : PC B b l w) (hB : B ≤ w.heap.size) (hlen : l.length + (lineV d (cContinue)).length ≤ 1000000) :
    Writes B b l (lineV d (cContinue)) w 97 #[.pointer (some ⟨b, 0, none⟩), .agg #[.int .i64 10, .int .i64 at_, .string name, .pointer tq, .pointer vq, .slice no nn nc, .slice eo en ec, .slice co cn cc], .int .i64 (d : Nat)] := by
  unfold Writes
  have hb := fresh_alloc w #[.int .i64 10, .int .i64 at_, .string name, .pointer tq, .pointer vq, .slice no nn nc, .slice eo en ec, .slice co cn cc] 49
  have hcat : catV [mkT cContinue] = cContinue := List.append_nil _
  have HL2 := Lib.hid (line_new B b d l [mkT cContinue] (w.alloc (.cells #[.int .i64 10, .int .i64 at_, .string name, .pointer tq, .pointer vq, .slice no nn nc, .slice eo en ec, .slice co cn cc] 49)) (h.fresh hb) (Nat.le_trans hB hb.size) (by rw [hcat]; exact hlen) (by simp))
  rw [hcat, alloc_size w] at HL2
  have HB2 := Lib.hid (hb.mono hB)
  have HO2 : Hid (Others b w (w.alloc (.cells #[.int .i64 10, .int .i64 at_, .string name, .pointer tq, .pointer vq, .slice no nn nc, .slice eo en ec, .slice co cn cc] 49))) := Lib.hid (Others.of_new hb)
  clear h hB hlen hb hcat
  go_enter Tryz.func97, Tryz.ntmps97
  go_wp2_with fail
  refine HL2.out.mono ?_
  rintro e w3 ⟨rfl, h3, hb3, ho3⟩
  have H3 := Lib.hid h3
  have HB3 := Lib.hid (HB2.out.trans hb3)
  have HO3 := Lib.hid (HO2.out.trans ho3)
  clear h3 hb3 ho3
  go_wp2_with fail
  try simp only [Exit.inBlock, Exit.then]
  go_end0
  exact ⟨rfl, H3.out, HB3.out, HO3.out⟩
set_option maxRecDepth 100000 in
set_option maxHeartbeats 12800000 in
theorem stmt_close {B b d : Nat} {at_ : Int} {name : ByteArray} {tq vq no eo co : Option Addr} {nn nc en ec cn cc : Nat} {val : Ex} (l : List UInt8) (w : World) (h : PC B b l w) (hB : B ≤ w.heap.size) (hP : PEnv B w) (hok : ExOk val) (hV : ExIn w (fun k => k < B) (.pointer vq) val) (hlen : l.length + (lineV d (cClose ++ (exV 1 val ++ cRp))).length ≤ 1000000) :
    Writes B b l (lineV d (cClose ++ (exV 1 val ++ cRp))) w 97 #[.pointer (some ⟨b, 0, none⟩), .agg #[.int .i64 4, .int .i64 at_, .string name, .pointer tq, .pointer vq, .slice no nn nc, .slice eo en ec, .slice co cn cc], .int .i64 (d : Nat)] := by
  unfold Writes
  have hb := fresh_alloc w #[.int .i64 4, .int .i64 at_, .string name, .pointer tq, .pointer vq, .slice no nn nc, .slice eo en ec, .slice co cn cc] 49
  have hcat : catV [mkT cClose, mkT (exV 1 val), mkT cRp] = cClose ++ (exV 1 val ++ cRp) := by show cClose ++ (exV 1 val ++ (cRp ++ [])) = _; rw [List.append_nil]
  have hl0 := hlen
  rw [lineV_len, List.length_append, List.length_append] at hlen
  have HT := Lib.hid (text_ex val hok (w.alloc (.cells #[.int .i64 4, .int .i64 at_, .string name, .pointer tq, .pointer vq, .slice no nn nc, .slice eo en ec, .slice co cn cc] 49)) (.pointer vq) (Nat.le_trans hB hb.size) (hP.below (hb.mono hB)) (hV.below (hb.mono hB)) (by omega))
  have HL : Hid (∀ w2, Below (w.alloc (.cells #[.int .i64 4, .int .i64 at_, .string name, .pointer tq, .pointer vq, .slice no nn nc, .slice eo en ec, .slice co cn cc] 49)).heap.size (w.alloc (.cells #[.int .i64 4, .int .i64 at_, .string name, .pointer tq, .pointer vq, .slice no nn nc, .slice eo en ec, .slice co cn cc] 49)) w2 → Calls Tryz.prog 35 #[.pointer (some ⟨b, 0, none⟩), .int .i64 (d : Nat), .slice (some ⟨w2.heap.size, 0, none⟩) [mkT cClose, mkT (exV 1 val), mkT cRp].length [mkT cClose, mkT (exV 1 val), mkT cRp].length] (w2.alloc (.cells ([mkT cClose, mkT (exV 1 val), mkT cRp].map Value.string).toArray 9)) fun e w' => e = .returned (.tuple #[]) ∧ PC B b (l ++ lineV d (cClose ++ (exV 1 val ++ cRp))) w' ∧ Below B w2 w' ∧ Others b w2 w') := Lib.hid fun w2 hb2 => by
    have := line_new B b d l [mkT cClose, mkT (exV 1 val), mkT cRp] w2 ((h.fresh hb).fresh hb2) (Nat.le_trans hB (Nat.le_trans hb.size hb2.size)) (by rw [hcat]; exact hl0) (by simp)
    rw [hcat] at this
    exact this
  have HBW := Lib.hid (hb.mono hB)
  have HSZ : Hid (B ≤ (w.alloc (.cells #[.int .i64 4, .int .i64 at_, .string name, .pointer tq, .pointer vq, .slice no nn nc, .slice eo en ec, .slice co cn cc] 49)).heap.size) := Lib.hid (Nat.le_trans hB hb.size)
  have HO1 : Hid (Others b w (w.alloc (.cells #[.int .i64 4, .int .i64 at_, .string name, .pointer tq, .pointer vq, .slice no nn nc, .slice eo en ec, .slice co cn cc] 49))) := Lib.hid (Others.of_new hb)
  clear h hB hP hV hlen hl0 hb hcat hok
  go_enter Tryz.func97, Tryz.ntmps97
  go_wp2_with fail
  refine HT.out.mono ?_
  rintro e w2 ⟨rfl, hb2⟩
  have HL2 := Lib.hid (HL.out w2 hb2)
  have HB2 := Lib.hid (HBW.out.trans (hb2.mono HSZ.out))
  have HO2 : Hid (Others b w w2) := Lib.hid (HO1.out.trans (Others.of_new hb2))
  clear hb2
  go_wp2_with fail
  refine HL2.out.mono ?_
  rintro e w3 ⟨rfl, h3, hb3, ho3⟩
  have H3 := Lib.hid h3
  have HB3 := Lib.hid (HB2.out.trans hb3)
  have HO3 := Lib.hid (HO2.out.trans ho3)
  clear h3 hb3 ho3
  go_wp2_with fail
  try simp only [Exit.inBlock, Exit.then]
  go_end0
  exact ⟨rfl, H3.out, HB3.out, HO3.out⟩
set_option maxRecDepth 100000 in
set_option maxHeartbeats 12800000 in
theorem stmt_print {B b d : Nat} {at_ : Int} {name : ByteArray} {tq vq no eo co : Option Addr} {nn nc en ec cn cc : Nat} {val : Ex} (l : List UInt8) (w : World) (h : PC B b l w) (hB : B ≤ w.heap.size) (hP : PEnv B w) (hok : ExOk val) (hV : ExIn w (fun k => k < B) (.pointer vq) val) (hlen : l.length + (lineV d (cPrint ++ exV 1 val)).length ≤ 1000000) :
    Writes B b l (lineV d (cPrint ++ exV 1 val)) w 97 #[.pointer (some ⟨b, 0, none⟩), .agg #[.int .i64 5, .int .i64 at_, .string name, .pointer tq, .pointer vq, .slice no nn nc, .slice eo en ec, .slice co cn cc], .int .i64 (d : Nat)] := by
  unfold Writes
  have hb := fresh_alloc w #[.int .i64 5, .int .i64 at_, .string name, .pointer tq, .pointer vq, .slice no nn nc, .slice eo en ec, .slice co cn cc] 49
  have hcat : catV [mkT cPrint, mkT (exV 1 val)] = cPrint ++ exV 1 val := by show cPrint ++ (exV 1 val ++ []) = _; rw [List.append_nil]
  have hl0 := hlen
  rw [lineV_len, List.length_append] at hlen
  have HT := Lib.hid (text_ex val hok (w.alloc (.cells #[.int .i64 5, .int .i64 at_, .string name, .pointer tq, .pointer vq, .slice no nn nc, .slice eo en ec, .slice co cn cc] 49)) (.pointer vq) (Nat.le_trans hB hb.size) (hP.below (hb.mono hB)) (hV.below (hb.mono hB)) (by omega))
  have HL : Hid (∀ w2, Below (w.alloc (.cells #[.int .i64 5, .int .i64 at_, .string name, .pointer tq, .pointer vq, .slice no nn nc, .slice eo en ec, .slice co cn cc] 49)).heap.size (w.alloc (.cells #[.int .i64 5, .int .i64 at_, .string name, .pointer tq, .pointer vq, .slice no nn nc, .slice eo en ec, .slice co cn cc] 49)) w2 → Calls Tryz.prog 35 #[.pointer (some ⟨b, 0, none⟩), .int .i64 (d : Nat), .slice (some ⟨w2.heap.size, 0, none⟩) [mkT cPrint, mkT (exV 1 val)].length [mkT cPrint, mkT (exV 1 val)].length] (w2.alloc (.cells ([mkT cPrint, mkT (exV 1 val)].map Value.string).toArray 9)) fun e w' => e = .returned (.tuple #[]) ∧ PC B b (l ++ lineV d (cPrint ++ exV 1 val)) w' ∧ Below B w2 w' ∧ Others b w2 w') := Lib.hid fun w2 hb2 => by
    have := line_new B b d l [mkT cPrint, mkT (exV 1 val)] w2 ((h.fresh hb).fresh hb2) (Nat.le_trans hB (Nat.le_trans hb.size hb2.size)) (by rw [hcat]; exact hl0) (by simp)
    rw [hcat] at this
    exact this
  have HBW := Lib.hid (hb.mono hB)
  have HSZ : Hid (B ≤ (w.alloc (.cells #[.int .i64 5, .int .i64 at_, .string name, .pointer tq, .pointer vq, .slice no nn nc, .slice eo en ec, .slice co cn cc] 49)).heap.size) := Lib.hid (Nat.le_trans hB hb.size)
  have HO1 : Hid (Others b w (w.alloc (.cells #[.int .i64 5, .int .i64 at_, .string name, .pointer tq, .pointer vq, .slice no nn nc, .slice eo en ec, .slice co cn cc] 49))) := Lib.hid (Others.of_new hb)
  clear h hB hP hV hlen hl0 hb hcat hok
  go_enter Tryz.func97, Tryz.ntmps97
  go_wp2_with fail
  refine HT.out.mono ?_
  rintro e w2 ⟨rfl, hb2⟩
  have HL2 := Lib.hid (HL.out w2 hb2)
  have HB2 := Lib.hid (HBW.out.trans (hb2.mono HSZ.out))
  have HO2 : Hid (Others b w w2) := Lib.hid (HO1.out.trans (Others.of_new hb2))
  clear hb2
  go_wp2_with fail
  refine HL2.out.mono ?_
  rintro e w3 ⟨rfl, h3, hb3, ho3⟩
  have H3 := Lib.hid h3
  have HB3 := Lib.hid (HB2.out.trans hb3)
  have HO3 := Lib.hid (HO2.out.trans ho3)
  clear h3 hb3 ho3
  go_wp2_with fail
  try simp only [Exit.inBlock, Exit.then]
  go_end0
  exact ⟨rfl, H3.out, HB3.out, HO3.out⟩
set_option maxRecDepth 100000 in
set_option maxHeartbeats 12800000 in
theorem stmt_sleep {B b d : Nat} {at_ : Int} {name : ByteArray} {tq vq no eo co : Option Addr} {nn nc en ec cn cc : Nat} {val : Ex} (l : List UInt8) (w : World) (h : PC B b l w) (hB : B ≤ w.heap.size) (hP : PEnv B w) (hok : ExOk val) (hV : ExIn w (fun k => k < B) (.pointer vq) val) (hlen : l.length + (lineV d (cSleep ++ exV 1 val)).length ≤ 1000000) :
    Writes B b l (lineV d (cSleep ++ exV 1 val)) w 97 #[.pointer (some ⟨b, 0, none⟩), .agg #[.int .i64 6, .int .i64 at_, .string name, .pointer tq, .pointer vq, .slice no nn nc, .slice eo en ec, .slice co cn cc], .int .i64 (d : Nat)] := by
  unfold Writes
  have hb := fresh_alloc w #[.int .i64 6, .int .i64 at_, .string name, .pointer tq, .pointer vq, .slice no nn nc, .slice eo en ec, .slice co cn cc] 49
  have hcat : catV [mkT cSleep, mkT (exV 1 val)] = cSleep ++ exV 1 val := by show cSleep ++ (exV 1 val ++ []) = _; rw [List.append_nil]
  have hl0 := hlen
  rw [lineV_len, List.length_append] at hlen
  have HT := Lib.hid (text_ex val hok (w.alloc (.cells #[.int .i64 6, .int .i64 at_, .string name, .pointer tq, .pointer vq, .slice no nn nc, .slice eo en ec, .slice co cn cc] 49)) (.pointer vq) (Nat.le_trans hB hb.size) (hP.below (hb.mono hB)) (hV.below (hb.mono hB)) (by omega))
  have HL : Hid (∀ w2, Below (w.alloc (.cells #[.int .i64 6, .int .i64 at_, .string name, .pointer tq, .pointer vq, .slice no nn nc, .slice eo en ec, .slice co cn cc] 49)).heap.size (w.alloc (.cells #[.int .i64 6, .int .i64 at_, .string name, .pointer tq, .pointer vq, .slice no nn nc, .slice eo en ec, .slice co cn cc] 49)) w2 → Calls Tryz.prog 35 #[.pointer (some ⟨b, 0, none⟩), .int .i64 (d : Nat), .slice (some ⟨w2.heap.size, 0, none⟩) [mkT cSleep, mkT (exV 1 val)].length [mkT cSleep, mkT (exV 1 val)].length] (w2.alloc (.cells ([mkT cSleep, mkT (exV 1 val)].map Value.string).toArray 9)) fun e w' => e = .returned (.tuple #[]) ∧ PC B b (l ++ lineV d (cSleep ++ exV 1 val)) w' ∧ Below B w2 w' ∧ Others b w2 w') := Lib.hid fun w2 hb2 => by
    have := line_new B b d l [mkT cSleep, mkT (exV 1 val)] w2 ((h.fresh hb).fresh hb2) (Nat.le_trans hB (Nat.le_trans hb.size hb2.size)) (by rw [hcat]; exact hl0) (by simp)
    rw [hcat] at this
    exact this
  have HBW := Lib.hid (hb.mono hB)
  have HSZ : Hid (B ≤ (w.alloc (.cells #[.int .i64 6, .int .i64 at_, .string name, .pointer tq, .pointer vq, .slice no nn nc, .slice eo en ec, .slice co cn cc] 49)).heap.size) := Lib.hid (Nat.le_trans hB hb.size)
  have HO1 : Hid (Others b w (w.alloc (.cells #[.int .i64 6, .int .i64 at_, .string name, .pointer tq, .pointer vq, .slice no nn nc, .slice eo en ec, .slice co cn cc] 49))) := Lib.hid (Others.of_new hb)
  clear h hB hP hV hlen hl0 hb hcat hok
  go_enter Tryz.func97, Tryz.ntmps97
  go_wp2_with fail
  refine HT.out.mono ?_
  rintro e w2 ⟨rfl, hb2⟩
  have HL2 := Lib.hid (HL.out w2 hb2)
  have HB2 := Lib.hid (HBW.out.trans (hb2.mono HSZ.out))
  have HO2 : Hid (Others b w w2) := Lib.hid (HO1.out.trans (Others.of_new hb2))
  clear hb2
  go_wp2_with fail
  refine HL2.out.mono ?_
  rintro e w3 ⟨rfl, h3, hb3, ho3⟩
  have H3 := Lib.hid h3
  have HB3 := Lib.hid (HB2.out.trans hb3)
  have HO3 := Lib.hid (HO2.out.trans ho3)
  clear h3 hb3 ho3
  go_wp2_with fail
  try simp only [Exit.inBlock, Exit.then]
  go_end0
  exact ⟨rfl, H3.out, HB3.out, HO3.out⟩
set_option maxRecDepth 100000 in
set_option maxHeartbeats 12800000 in
theorem stmt_go {B b d : Nat} {at_ : Int} {name : ByteArray} {tq vq no eo co : Option Addr} {nn nc en ec cn cc : Nat} {val : Ex} (l : List UInt8) (w : World) (h : PC B b l w) (hB : B ≤ w.heap.size) (hP : PEnv B w) (hok : ExOk val) (hV : ExIn w (fun k => k < B) (.pointer vq) val) (hlen : l.length + (lineV d (cGo ++ exV 1 val)).length ≤ 1000000) :
    Writes B b l (lineV d (cGo ++ exV 1 val)) w 97 #[.pointer (some ⟨b, 0, none⟩), .agg #[.int .i64 7, .int .i64 at_, .string name, .pointer tq, .pointer vq, .slice no nn nc, .slice eo en ec, .slice co cn cc], .int .i64 (d : Nat)] := by
  unfold Writes
  have hb := fresh_alloc w #[.int .i64 7, .int .i64 at_, .string name, .pointer tq, .pointer vq, .slice no nn nc, .slice eo en ec, .slice co cn cc] 49
  have hcat : catV [mkT cGo, mkT (exV 1 val)] = cGo ++ exV 1 val := by show cGo ++ (exV 1 val ++ []) = _; rw [List.append_nil]
  have hl0 := hlen
  rw [lineV_len, List.length_append] at hlen
  have HT := Lib.hid (text_ex val hok (w.alloc (.cells #[.int .i64 7, .int .i64 at_, .string name, .pointer tq, .pointer vq, .slice no nn nc, .slice eo en ec, .slice co cn cc] 49)) (.pointer vq) (Nat.le_trans hB hb.size) (hP.below (hb.mono hB)) (hV.below (hb.mono hB)) (by omega))
  have HL : Hid (∀ w2, Below (w.alloc (.cells #[.int .i64 7, .int .i64 at_, .string name, .pointer tq, .pointer vq, .slice no nn nc, .slice eo en ec, .slice co cn cc] 49)).heap.size (w.alloc (.cells #[.int .i64 7, .int .i64 at_, .string name, .pointer tq, .pointer vq, .slice no nn nc, .slice eo en ec, .slice co cn cc] 49)) w2 → Calls Tryz.prog 35 #[.pointer (some ⟨b, 0, none⟩), .int .i64 (d : Nat), .slice (some ⟨w2.heap.size, 0, none⟩) [mkT cGo, mkT (exV 1 val)].length [mkT cGo, mkT (exV 1 val)].length] (w2.alloc (.cells ([mkT cGo, mkT (exV 1 val)].map Value.string).toArray 9)) fun e w' => e = .returned (.tuple #[]) ∧ PC B b (l ++ lineV d (cGo ++ exV 1 val)) w' ∧ Below B w2 w' ∧ Others b w2 w') := Lib.hid fun w2 hb2 => by
    have := line_new B b d l [mkT cGo, mkT (exV 1 val)] w2 ((h.fresh hb).fresh hb2) (Nat.le_trans hB (Nat.le_trans hb.size hb2.size)) (by rw [hcat]; exact hl0) (by simp)
    rw [hcat] at this
    exact this
  have HBW := Lib.hid (hb.mono hB)
  have HSZ : Hid (B ≤ (w.alloc (.cells #[.int .i64 7, .int .i64 at_, .string name, .pointer tq, .pointer vq, .slice no nn nc, .slice eo en ec, .slice co cn cc] 49)).heap.size) := Lib.hid (Nat.le_trans hB hb.size)
  have HO1 : Hid (Others b w (w.alloc (.cells #[.int .i64 7, .int .i64 at_, .string name, .pointer tq, .pointer vq, .slice no nn nc, .slice eo en ec, .slice co cn cc] 49))) := Lib.hid (Others.of_new hb)
  clear h hB hP hV hlen hl0 hb hcat hok
  go_enter Tryz.func97, Tryz.ntmps97
  go_wp2_with fail
  refine HT.out.mono ?_
  rintro e w2 ⟨rfl, hb2⟩
  have HL2 := Lib.hid (HL.out w2 hb2)
  have HB2 := Lib.hid (HBW.out.trans (hb2.mono HSZ.out))
  have HO2 : Hid (Others b w w2) := Lib.hid (HO1.out.trans (Others.of_new hb2))
  clear hb2
  go_wp2_with fail
  refine HL2.out.mono ?_
  rintro e w3 ⟨rfl, h3, hb3, ho3⟩
  have H3 := Lib.hid h3
  have HB3 := Lib.hid (HB2.out.trans hb3)
  have HO3 := Lib.hid (HO2.out.trans ho3)
  clear h3 hb3 ho3
  go_wp2_with fail
  try simp only [Exit.inBlock, Exit.then]
  go_end0
  exact ⟨rfl, H3.out, HB3.out, HO3.out⟩
set_option maxRecDepth 100000 in
set_option maxHeartbeats 12800000 in
theorem stmt_do {B b d : Nat} {at_ : Int} {name : ByteArray} {tq vq no eo co : Option Addr} {nn nc en ec cn cc : Nat} {val : Ex} (l : List UInt8) (w : World) (h : PC B b l w) (hB : B ≤ w.heap.size) (hP : PEnv B w) (hok : ExOk val) (hV : ExIn w (fun k => k < B) (.pointer vq) val) (hlen : l.length + (lineV d (exV 1 val)).length ≤ 1000000) :
    Writes B b l (lineV d (exV 1 val)) w 97 #[.pointer (some ⟨b, 0, none⟩), .agg #[.int .i64 11, .int .i64 at_, .string name, .pointer tq, .pointer vq, .slice no nn nc, .slice eo en ec, .slice co cn cc], .int .i64 (d : Nat)] := by
  unfold Writes
  have hb := fresh_alloc w #[.int .i64 11, .int .i64 at_, .string name, .pointer tq, .pointer vq, .slice no nn nc, .slice eo en ec, .slice co cn cc] 49
  have hcat : catV [mkT (exV 1 val)] = exV 1 val := by show exV 1 val ++ [] = _; rw [List.append_nil]
  have hl0 := hlen
  rw [lineV_len] at hlen
  have HT := Lib.hid (text_ex val hok (w.alloc (.cells #[.int .i64 11, .int .i64 at_, .string name, .pointer tq, .pointer vq, .slice no nn nc, .slice eo en ec, .slice co cn cc] 49)) (.pointer vq) (Nat.le_trans hB hb.size) (hP.below (hb.mono hB)) (hV.below (hb.mono hB)) (by omega))
  have HL : Hid (∀ w2, Below (w.alloc (.cells #[.int .i64 11, .int .i64 at_, .string name, .pointer tq, .pointer vq, .slice no nn nc, .slice eo en ec, .slice co cn cc] 49)).heap.size (w.alloc (.cells #[.int .i64 11, .int .i64 at_, .string name, .pointer tq, .pointer vq, .slice no nn nc, .slice eo en ec, .slice co cn cc] 49)) w2 → Calls Tryz.prog 35 #[.pointer (some ⟨b, 0, none⟩), .int .i64 (d : Nat), .slice (some ⟨w2.heap.size, 0, none⟩) [mkT (exV 1 val)].length [mkT (exV 1 val)].length] (w2.alloc (.cells ([mkT (exV 1 val)].map Value.string).toArray 9)) fun e w' => e = .returned (.tuple #[]) ∧ PC B b (l ++ lineV d (exV 1 val)) w' ∧ Below B w2 w' ∧ Others b w2 w') := Lib.hid fun w2 hb2 => by
    have := line_new B b d l [mkT (exV 1 val)] w2 ((h.fresh hb).fresh hb2) (Nat.le_trans hB (Nat.le_trans hb.size hb2.size)) (by rw [hcat]; exact hl0) (by simp)
    rw [hcat] at this
    exact this
  have HBW := Lib.hid (hb.mono hB)
  have HSZ : Hid (B ≤ (w.alloc (.cells #[.int .i64 11, .int .i64 at_, .string name, .pointer tq, .pointer vq, .slice no nn nc, .slice eo en ec, .slice co cn cc] 49)).heap.size) := Lib.hid (Nat.le_trans hB hb.size)
  have HO1 : Hid (Others b w (w.alloc (.cells #[.int .i64 11, .int .i64 at_, .string name, .pointer tq, .pointer vq, .slice no nn nc, .slice eo en ec, .slice co cn cc] 49))) := Lib.hid (Others.of_new hb)
  clear h hB hP hV hlen hl0 hb hcat hok
  go_enter Tryz.func97, Tryz.ntmps97
  go_wp2_with fail
  refine HT.out.mono ?_
  rintro e w2 ⟨rfl, hb2⟩
  have HL2 := Lib.hid (HL.out w2 hb2)
  have HB2 := Lib.hid (HBW.out.trans (hb2.mono HSZ.out))
  have HO2 : Hid (Others b w w2) := Lib.hid (HO1.out.trans (Others.of_new hb2))
  clear hb2
  go_wp2_with fail
  refine HL2.out.mono ?_
  rintro e w3 ⟨rfl, h3, hb3, ho3⟩
  have H3 := Lib.hid h3
  have HB3 := Lib.hid (HB2.out.trans hb3)
  have HO3 := Lib.hid (HO2.out.trans ho3)
  clear h3 hb3 ho3
  go_wp2_with fail
  try simp only [Exit.inBlock, Exit.then]
  go_end0
  exact ⟨rfl, H3.out, HB3.out, HO3.out⟩
set_option maxRecDepth 100000 in
set_option maxHeartbeats 12800000 in
theorem stmt_send {B b d : Nat} {at_ : Int} {name : ByteArray} {tq vq no eo co : Option Addr} {nn nc en ec cn cc : Nat} {dst val : Ex} (l : List UInt8) (w : World) (h : PC B b l w) (hB : B ≤ w.heap.size) (hP : PEnv B w) (hokd : ExOk dst) (hok : ExOk val) (hD : ExIn w (fun k => k < B) (.pointer tq) dst) (hV : ExIn w (fun k => k < B) (.pointer vq) val) (hlen : l.length + (lineV d (sentV dst val)).length ≤ 1000000) :
    Writes B b l (lineV d (sentV dst val)) w 97 #[.pointer (some ⟨b, 0, none⟩), .agg #[.int .i64 3, .int .i64 at_, .string name, .pointer tq, .pointer vq, .slice no nn nc, .slice eo en ec, .slice co cn cc], .int .i64 (d : Nat)] := by
  unfold Writes
  have hb := fresh_alloc w #[.int .i64 3, .int .i64 at_, .string name, .pointer tq, .pointer vq, .slice no nn nc, .slice eo en ec, .slice co cn cc] 49
  have hcat : catV [mkT (sentV dst val)] = sentV dst val := by show sentV dst val ++ [] = _; rw [List.append_nil]
  have hl0 := hlen
  rw [lineV_len] at hlen
  have HT := Lib.hid (sent_ex dst val hokd hok (w.alloc (.cells #[.int .i64 3, .int .i64 at_, .string name, .pointer tq, .pointer vq, .slice no nn nc, .slice eo en ec, .slice co cn cc] 49)) (.pointer tq) (.pointer vq) (Nat.le_trans hB hb.size) (hP.below (hb.mono hB)) (hD.below (hb.mono hB)) (hV.below (hb.mono hB)) (by omega))
  have HL : Hid (∀ w2, Below (w.alloc (.cells #[.int .i64 3, .int .i64 at_, .string name, .pointer tq, .pointer vq, .slice no nn nc, .slice eo en ec, .slice co cn cc] 49)).heap.size (w.alloc (.cells #[.int .i64 3, .int .i64 at_, .string name, .pointer tq, .pointer vq, .slice no nn nc, .slice eo en ec, .slice co cn cc] 49)) w2 → Calls Tryz.prog 35 #[.pointer (some ⟨b, 0, none⟩), .int .i64 (d : Nat), .slice (some ⟨w2.heap.size, 0, none⟩) [mkT (sentV dst val)].length [mkT (sentV dst val)].length] (w2.alloc (.cells ([mkT (sentV dst val)].map Value.string).toArray 9)) fun e w' => e = .returned (.tuple #[]) ∧ PC B b (l ++ lineV d (sentV dst val)) w' ∧ Below B w2 w' ∧ Others b w2 w') := Lib.hid fun w2 hb2 => by
    have := line_new B b d l [mkT (sentV dst val)] w2 ((h.fresh hb).fresh hb2) (Nat.le_trans hB (Nat.le_trans hb.size hb2.size)) (by rw [hcat]; exact hl0) (by simp)
    rw [hcat] at this
    exact this
  have HBW := Lib.hid (hb.mono hB)
  have HSZ : Hid (B ≤ (w.alloc (.cells #[.int .i64 3, .int .i64 at_, .string name, .pointer tq, .pointer vq, .slice no nn nc, .slice eo en ec, .slice co cn cc] 49)).heap.size) := Lib.hid (Nat.le_trans hB hb.size)
  have HO1 : Hid (Others b w (w.alloc (.cells #[.int .i64 3, .int .i64 at_, .string name, .pointer tq, .pointer vq, .slice no nn nc, .slice eo en ec, .slice co cn cc] 49))) := Lib.hid (Others.of_new hb)
  clear h hB hP hV hD hlen hl0 hb hcat hok hokd
  go_enter Tryz.func97, Tryz.ntmps97
  go_wp2_with fail
  refine HT.out.mono ?_
  rintro e w2 ⟨rfl, hb2⟩
  have HL2 := Lib.hid (HL.out w2 hb2)
  have HB2 := Lib.hid (HBW.out.trans (hb2.mono HSZ.out))
  have HO2 : Hid (Others b w w2) := Lib.hid (HO1.out.trans (Others.of_new hb2))
  clear hb2
  go_wp2_with fail
  refine HL2.out.mono ?_
  rintro e w3 ⟨rfl, h3, hb3, ho3⟩
  have H3 := Lib.hid h3
  have HB3 := Lib.hid (HB2.out.trans hb3)
  have HO3 := Lib.hid (HO2.out.trans ho3)
  clear h3 hb3 ho3
  go_wp2_with fail
  try simp only [Exit.inBlock, Exit.then]
  go_end0
  exact ⟨rfl, H3.out, HB3.out, HO3.out⟩
end Go.Proofs.YtgonbmcojjcabaaGreatDoor

namespace Go.Proofs.YtgonbmcojjcabaaGreatDoor
open Go.RowKit Lx Tr
variable {w w' : World}

set_option maxRecDepth 100000 in
set_option maxHeartbeats 12800000 in
theorem stmt_let {B b d : Nat} {at_ : Int} {tq vq no eo co : Option Addr} {nn nc en ec cn cc : Nat} {name : Lx.B} {val : Ex} (l : List UInt8) (w : World) (h : PC B b l w) (hB : B ≤ w.heap.size) (hP : PEnv B w) (hok : ExOk val) (hV : ExIn w (fun k => k < B) (.pointer vq) val) (hlen : l.length + (lineV d (name ++ (cLet ++ exV 1 val))).length ≤ 1000000) :
    Writes B b l (lineV d (name ++ (cLet ++ exV 1 val))) w 97 #[.pointer (some ⟨b, 0, none⟩), .agg #[.int .i64 1, .int .i64 at_, .string (mkT name), .pointer tq, .pointer vq, .slice no nn nc, .slice eo en ec, .slice co cn cc], .int .i64 (d : Nat)] := by
  unfold Writes
  have hbw := fresh_alloc w #[.int .i64 1, .int .i64 at_, .string (mkT name), .pointer tq, .pointer vq, .slice no nn nc, .slice eo en ec, .slice co cn cc] 49
  have hb : Below w.heap.size w (w.alloc (.cells #[.int .i64 1, .int .i64 at_, .string (mkT name), .pointer tq, .pointer vq, .slice no nn nc, .slice eo en ec, .slice co cn cc] 49)).drew := hbw.trans (Below.drew (Below.refl _ _))
  have hcat : catV [mkT name, mkT cLet, mkT (exV 1 val)] = name ++ (cLet ++ exV 1 val) := by show name ++ (cLet ++ (exV 1 val ++ [])) = _; rw [List.append_nil]
  have hl0 := hlen
  rw [lineV_len, List.length_append, List.length_append] at hlen
  have HT := Lib.hid (text_ex val hok (w.alloc (.cells #[.int .i64 1, .int .i64 at_, .string (mkT name), .pointer tq, .pointer vq, .slice no nn nc, .slice eo en ec, .slice co cn cc] 49)).drew (.pointer vq) (Nat.le_trans hB hb.size) (hP.below (hb.mono hB)) (hV.below (hb.mono hB)) (by omega))
  have HL : Hid (∀ w2, Below (w.alloc (.cells #[.int .i64 1, .int .i64 at_, .string (mkT name), .pointer tq, .pointer vq, .slice no nn nc, .slice eo en ec, .slice co cn cc] 49)).drew.heap.size (w.alloc (.cells #[.int .i64 1, .int .i64 at_, .string (mkT name), .pointer tq, .pointer vq, .slice no nn nc, .slice eo en ec, .slice co cn cc] 49)).drew w2 → Calls Tryz.prog 35 #[.pointer (some ⟨b, 0, none⟩), .int .i64 (d : Nat), .slice (some ⟨w2.heap.size, 0, none⟩) [mkT name, mkT cLet, mkT (exV 1 val)].length [mkT name, mkT cLet, mkT (exV 1 val)].length] (w2.alloc (.cells ([mkT name, mkT cLet, mkT (exV 1 val)].map Value.string).toArray 9)) fun e w' => e = .returned (.tuple #[]) ∧ PC B b (l ++ lineV d (name ++ (cLet ++ exV 1 val))) w' ∧ Below B w2 w' ∧ Others b w2 w') := Lib.hid fun w2 hb2 => by
    have := line_new B b d l [mkT name, mkT cLet, mkT (exV 1 val)] w2 ((h.fresh hb).fresh hb2) (Nat.le_trans hB (Nat.le_trans hb.size hb2.size)) (by rw [hcat]; exact hl0) (by simp)
    rw [hcat] at this
    exact this
  have hblt := h.1.lt
  have HBW := Lib.hid (hb.mono hB)
  have HSZ : Hid (B ≤ (w.alloc (.cells #[.int .i64 1, .int .i64 at_, .string (mkT name), .pointer tq, .pointer vq, .slice no nn nc, .slice eo en ec, .slice co cn cc] 49)).drew.heap.size) := Lib.hid (Nat.le_trans hB hb.size)
  have HO1 : Hid (Others b w (w.alloc (.cells #[.int .i64 1, .int .i64 at_, .string (mkT name), .pointer tq, .pointer vq, .slice no nn nc, .slice eo en ec, .slice co cn cc] 49)).drew) := Lib.hid (Others.of_new hb)
  have HLT : Hid (w.heap.size < (w.alloc (.cells #[.int .i64 1, .int .i64 at_, .string (mkT name), .pointer tq, .pointer vq, .slice no nn nc, .slice eo en ec, .slice co cn cc] 49)).drew.heap.size) := Lib.hid (by show w.heap.size < (w.alloc (.cells #[.int .i64 1, .int .i64 at_, .string (mkT name), .pointer tq, .pointer vq, .slice no nn nc, .slice eo en ec, .slice co cn cc] 49)).heap.size; rw [alloc_size]; exact Nat.lt_succ_self _)
  have HNE : Hid (w.heap.size ≠ b) := Lib.hid (by omega)
  have HH : Hid ((w.alloc (.cells #[.int .i64 1, .int .i64 at_, .string (mkT name), .pointer tq, .pointer vq, .slice no nn nc, .slice eo en ec, .slice co cn cc] 49)).drew.heap[w.heap.size]? = some (Obj.cells #[.int .i64 1, .int .i64 at_, .string (mkT name), .pointer tq, .pointer vq, .slice no nn nc, .slice eo en ec, .slice co cn cc] 49 (0, 0))) := Lib.hid (heap_alloc_new w _)
  have HCL : Hid (∀ V : World, V.heap[w.heap.size]? = some (Obj.cells #[.int .i64 1, .int .i64 at_, .string (mkT name), .pointer tq, .pointer vq, .slice no nn nc, .slice eo en ec, .slice co cn cc] 49 (0, 0)) → V.cell? ⟨w.heap.size, 2, none⟩ = some (.string (mkT name)) ∧ V.cell? ⟨w.heap.size, 4, none⟩ = some (.pointer vq)) := Lib.hid fun V hV => ⟨by rw [Lib.cell_of_heap hV]; rfl, by rw [Lib.cell_of_heap hV]; rfl⟩
  clear h hB hP hV hlen hl0 hb hbw hcat hok hblt
  go_enter Tryz.func97, Tryz.ntmps97
  go_wp2_with fail
  refine wp_region_held_drew (S := (fun W' : World => W'.cell? ⟨w.heap.size, 2, none⟩ = some (.string (mkT name)) ∧ W'.cell? ⟨w.heap.size, 4, none⟩ = some (.pointer vq))) (by kernel_rfl) (HCL.out _ HH.out) (fun hHeld => ?_)
  refine wpAnyH_take (i := 0) (oi := { dst := some 10, op := _, type := _, pos := _, after := _, guard := _ }) (v := .pointer (some ⟨b, 0, none⟩)) rfl (by kernel_rfl) (by kernel_rfl) (by kernel_rfl) (fun _ _ _ h => h) (Or.inl ⟨by rfl, ?_⟩) hHeld ?_
  · intro W9 hSW
    (try dsimp only at hSW)
    go_simp
  try simp only [Act.put, List.setIfInBounds_toArray, List.set_cons_zero, List.set_cons_succ]
  refine wpAnyH_take (i := 1) (oi := { dst := some 11, op := _, type := _, pos := _, after := _, guard := _ }) (v := .int .i64 (d : Nat)) rfl (by kernel_rfl) (by kernel_rfl) (by kernel_rfl) (fun _ _ _ h => h) (Or.inl ⟨by rfl, ?_⟩) hHeld ?_
  · intro W9 hSW
    (try dsimp only at hSW)
    go_simp
  try simp only [Act.put, List.setIfInBounds_toArray, List.set_cons_zero, List.set_cons_succ]
  refine wpAnyH_take (i := 2) (oi := { dst := some 12, op := _, type := _, pos := _, after := _, guard := _ }) (v := .pointer (some ⟨w.heap.size, 2, none⟩)) rfl (by kernel_rfl) (by kernel_rfl) (by kernel_rfl) (fun _ _ _ h => h) (Or.inl ⟨by rfl, ?_⟩) hHeld ?_
  · intro W9 hSW
    (try dsimp only at hSW)
    go_simp
  try simp only [Act.put, List.setIfInBounds_toArray, List.set_cons_zero, List.set_cons_succ]
  refine wpAnyH_take (i := 3) (oi := { dst := some 13, op := _, type := _, pos := _, after := _, guard := _ }) (v := .string (mkT name)) rfl (by kernel_rfl) (by kernel_rfl) (by kernel_rfl) (fun _ _ _ h => h) (Or.inl ⟨by rfl, ?_⟩) hHeld ?_
  · intro W9 hSW
    (try dsimp only at hSW)
    go_simp
  try simp only [Act.put, List.setIfInBounds_toArray, List.set_cons_zero, List.set_cons_succ]
  refine wpAnyH_take (i := 4) (oi := { dst := some 14, op := _, type := _, pos := _, after := _, guard := _ }) (v := .pointer (some ⟨w.heap.size, 4, none⟩)) rfl (by kernel_rfl) (by kernel_rfl) (by kernel_rfl) (fun _ _ _ h => h) (Or.inl ⟨by rfl, ?_⟩) hHeld ?_
  · intro W9 hSW
    (try dsimp only at hSW)
    go_simp
  try simp only [Act.put, List.setIfInBounds_toArray, List.set_cons_zero, List.set_cons_succ]
  refine wpAnyH_take (i := 5) (oi := { dst := some 15, op := _, type := _, pos := _, after := _, guard := _ }) (v := .pointer vq) rfl (by kernel_rfl) (by kernel_rfl) (by kernel_rfl) (fun _ _ _ h => h) (Or.inl ⟨by rfl, ?_⟩) hHeld ?_
  · intro W9 hSW
    (try dsimp only at hSW)
    go_simp
  try simp only [Act.put, List.setIfInBounds_toArray, List.set_cons_zero, List.set_cons_succ]
  refine wpAnyH_ready (rs := [6]) (by kernel_rfl) (by simp) ?_
  refine AllReadyH.cons (o := { dst := some 16, op := _, type := _, pos := _, after := _, guard := _ }) rfl (fun K hK => ?_) AllReadyH.nil
  go_simp
  go_at_call 20
  refine HT.out.mono ?_
  rintro e w2 ⟨rfl, hb2⟩
  have hh2 : w2.heap[w.heap.size]? = some (Obj.cells #[.int .i64 1, .int .i64 at_, .string (mkT name), .pointer tq, .pointer vq, .slice no nn nc, .slice eo en ec, .slice co cn cc] 49 (0, 0)) := by rw [hb2.block _ HLT.out]; exact HH.out
  have HL2 := Lib.hid (HL.out w2 hb2)
  have HB2 := Lib.hid (HBW.out.trans (hb2.mono HSZ.out))
  have HO2 : Hid (Others b w w2) := Lib.hid (HO1.out.trans (Others.of_new hb2))
  have HH2 := Lib.hid hh2
  have HLT2 : Hid (w.heap.size < w2.heap.size) := Lib.hid (Nat.lt_of_lt_of_le HLT.out hb2.size)
  clear hb2 hh2
  refine hK.out _ _ (HCL.out _ HH2.out) (fun hHeld => ?_)
  clear hK K
  refine wpAnyH_ready (rs := [7]) (by kernel_rfl) (by simp) ?_
  refine AllReadyH.cons (o := { dst := some 17, op := _, type := _, pos := _, after := _, guard := _ }) rfl (fun K hK => ?_) AllReadyH.nil
  go_simp
  refine hK.out _ _ (HCL.out _ (by rw [Below.heap_alloc _ _ _ HLT2.out]; exact HH2.out)) (fun hHeld => ?_)
  clear hK K
  refine wpAnyH_ready (rs := [8]) (by kernel_rfl) (by simp) ?_
  refine AllReadyH.cons (o := { dst := some 18, op := _, type := _, pos := _, after := _, guard := _ }) rfl (fun K hK => ?_) AllReadyH.nil
  go_simp
  go_at_call 35
  refine HL2.out.mono ?_
  rintro e w3 ⟨rfl, h3, hb3, ho3⟩
  have H3 := Lib.hid h3
  have HB3 := Lib.hid (HB2.out.trans hb3)
  have HO3 := Lib.hid (HO2.out.trans ho3)
  have HH3 := Lib.hid (ho3.heap HNE.out (by decide) HH2.out)
  clear h3 hb3 ho3
  refine hK.out _ _ (HCL.out _ HH3.out) (fun hHeld => ?_)
  clear hK K
  refine wpAnyH_done (by kernel_rfl) ?_ _
  go_wp2_with fail
  try simp only [Exit.inBlock, Exit.then]
  go_end0
  exact ⟨rfl, H3.out, HB3.out, HO3.out⟩
set_option maxRecDepth 100000 in
set_option maxHeartbeats 12800000 in
theorem stmt_set {B b d : Nat} {at_ : Int} {tq vq no eo co : Option Addr} {nn nc en ec cn cc : Nat} {name : Lx.B} {val : Ex} (l : List UInt8) (w : World) (h : PC B b l w) (hB : B ≤ w.heap.size) (hP : PEnv B w) (hok : ExOk val) (hV : ExIn w (fun k => k < B) (.pointer vq) val) (hlen : l.length + (lineV d (name ++ (cSet ++ exV 1 val))).length ≤ 1000000) :
    Writes B b l (lineV d (name ++ (cSet ++ exV 1 val))) w 97 #[.pointer (some ⟨b, 0, none⟩), .agg #[.int .i64 2, .int .i64 at_, .string (mkT name), .pointer tq, .pointer vq, .slice no nn nc, .slice eo en ec, .slice co cn cc], .int .i64 (d : Nat)] := by
  unfold Writes
  have hbw := fresh_alloc w #[.int .i64 2, .int .i64 at_, .string (mkT name), .pointer tq, .pointer vq, .slice no nn nc, .slice eo en ec, .slice co cn cc] 49
  have hb : Below w.heap.size w (w.alloc (.cells #[.int .i64 2, .int .i64 at_, .string (mkT name), .pointer tq, .pointer vq, .slice no nn nc, .slice eo en ec, .slice co cn cc] 49)).drew := hbw.trans (Below.drew (Below.refl _ _))
  have hcat : catV [mkT name, mkT cSet, mkT (exV 1 val)] = name ++ (cSet ++ exV 1 val) := by show name ++ (cSet ++ (exV 1 val ++ [])) = _; rw [List.append_nil]
  have hl0 := hlen
  rw [lineV_len, List.length_append, List.length_append] at hlen
  have HT := Lib.hid (text_ex val hok (w.alloc (.cells #[.int .i64 2, .int .i64 at_, .string (mkT name), .pointer tq, .pointer vq, .slice no nn nc, .slice eo en ec, .slice co cn cc] 49)).drew (.pointer vq) (Nat.le_trans hB hb.size) (hP.below (hb.mono hB)) (hV.below (hb.mono hB)) (by omega))
  have HL : Hid (∀ w2, Below (w.alloc (.cells #[.int .i64 2, .int .i64 at_, .string (mkT name), .pointer tq, .pointer vq, .slice no nn nc, .slice eo en ec, .slice co cn cc] 49)).drew.heap.size (w.alloc (.cells #[.int .i64 2, .int .i64 at_, .string (mkT name), .pointer tq, .pointer vq, .slice no nn nc, .slice eo en ec, .slice co cn cc] 49)).drew w2 → Calls Tryz.prog 35 #[.pointer (some ⟨b, 0, none⟩), .int .i64 (d : Nat), .slice (some ⟨w2.heap.size, 0, none⟩) [mkT name, mkT cSet, mkT (exV 1 val)].length [mkT name, mkT cSet, mkT (exV 1 val)].length] (w2.alloc (.cells ([mkT name, mkT cSet, mkT (exV 1 val)].map Value.string).toArray 9)) fun e w' => e = .returned (.tuple #[]) ∧ PC B b (l ++ lineV d (name ++ (cSet ++ exV 1 val))) w' ∧ Below B w2 w' ∧ Others b w2 w') := Lib.hid fun w2 hb2 => by
    have := line_new B b d l [mkT name, mkT cSet, mkT (exV 1 val)] w2 ((h.fresh hb).fresh hb2) (Nat.le_trans hB (Nat.le_trans hb.size hb2.size)) (by rw [hcat]; exact hl0) (by simp)
    rw [hcat] at this
    exact this
  have hblt := h.1.lt
  have HBW := Lib.hid (hb.mono hB)
  have HSZ : Hid (B ≤ (w.alloc (.cells #[.int .i64 2, .int .i64 at_, .string (mkT name), .pointer tq, .pointer vq, .slice no nn nc, .slice eo en ec, .slice co cn cc] 49)).drew.heap.size) := Lib.hid (Nat.le_trans hB hb.size)
  have HO1 : Hid (Others b w (w.alloc (.cells #[.int .i64 2, .int .i64 at_, .string (mkT name), .pointer tq, .pointer vq, .slice no nn nc, .slice eo en ec, .slice co cn cc] 49)).drew) := Lib.hid (Others.of_new hb)
  have HLT : Hid (w.heap.size < (w.alloc (.cells #[.int .i64 2, .int .i64 at_, .string (mkT name), .pointer tq, .pointer vq, .slice no nn nc, .slice eo en ec, .slice co cn cc] 49)).drew.heap.size) := Lib.hid (by show w.heap.size < (w.alloc (.cells #[.int .i64 2, .int .i64 at_, .string (mkT name), .pointer tq, .pointer vq, .slice no nn nc, .slice eo en ec, .slice co cn cc] 49)).heap.size; rw [alloc_size]; exact Nat.lt_succ_self _)
  have HNE : Hid (w.heap.size ≠ b) := Lib.hid (by omega)
  have HH : Hid ((w.alloc (.cells #[.int .i64 2, .int .i64 at_, .string (mkT name), .pointer tq, .pointer vq, .slice no nn nc, .slice eo en ec, .slice co cn cc] 49)).drew.heap[w.heap.size]? = some (Obj.cells #[.int .i64 2, .int .i64 at_, .string (mkT name), .pointer tq, .pointer vq, .slice no nn nc, .slice eo en ec, .slice co cn cc] 49 (0, 0))) := Lib.hid (heap_alloc_new w _)
  have HCL : Hid (∀ V : World, V.heap[w.heap.size]? = some (Obj.cells #[.int .i64 2, .int .i64 at_, .string (mkT name), .pointer tq, .pointer vq, .slice no nn nc, .slice eo en ec, .slice co cn cc] 49 (0, 0)) → V.cell? ⟨w.heap.size, 2, none⟩ = some (.string (mkT name)) ∧ V.cell? ⟨w.heap.size, 4, none⟩ = some (.pointer vq)) := Lib.hid fun V hV => ⟨by rw [Lib.cell_of_heap hV]; rfl, by rw [Lib.cell_of_heap hV]; rfl⟩
  clear h hB hP hV hlen hl0 hb hbw hcat hok hblt
  go_enter Tryz.func97, Tryz.ntmps97
  go_wp2_with fail
  refine wp_region_held_drew (S := (fun W' : World => W'.cell? ⟨w.heap.size, 2, none⟩ = some (.string (mkT name)) ∧ W'.cell? ⟨w.heap.size, 4, none⟩ = some (.pointer vq))) (by kernel_rfl) (HCL.out _ HH.out) (fun hHeld => ?_)
  refine wpAnyH_take (i := 0) (oi := { dst := some 21, op := _, type := _, pos := _, after := _, guard := _ }) (v := .pointer (some ⟨b, 0, none⟩)) rfl (by kernel_rfl) (by kernel_rfl) (by kernel_rfl) (fun _ _ _ h => h) (Or.inl ⟨by rfl, ?_⟩) hHeld ?_
  · intro W9 hSW
    (try dsimp only at hSW)
    go_simp
  try simp only [Act.put, List.setIfInBounds_toArray, List.set_cons_zero, List.set_cons_succ]
  refine wpAnyH_take (i := 1) (oi := { dst := some 22, op := _, type := _, pos := _, after := _, guard := _ }) (v := .int .i64 (d : Nat)) rfl (by kernel_rfl) (by kernel_rfl) (by kernel_rfl) (fun _ _ _ h => h) (Or.inl ⟨by rfl, ?_⟩) hHeld ?_
  · intro W9 hSW
    (try dsimp only at hSW)
    go_simp
  try simp only [Act.put, List.setIfInBounds_toArray, List.set_cons_zero, List.set_cons_succ]
  refine wpAnyH_take (i := 2) (oi := { dst := some 23, op := _, type := _, pos := _, after := _, guard := _ }) (v := .pointer (some ⟨w.heap.size, 2, none⟩)) rfl (by kernel_rfl) (by kernel_rfl) (by kernel_rfl) (fun _ _ _ h => h) (Or.inl ⟨by rfl, ?_⟩) hHeld ?_
  · intro W9 hSW
    (try dsimp only at hSW)
    go_simp
  try simp only [Act.put, List.setIfInBounds_toArray, List.set_cons_zero, List.set_cons_succ]
  refine wpAnyH_take (i := 3) (oi := { dst := some 24, op := _, type := _, pos := _, after := _, guard := _ }) (v := .string (mkT name)) rfl (by kernel_rfl) (by kernel_rfl) (by kernel_rfl) (fun _ _ _ h => h) (Or.inl ⟨by rfl, ?_⟩) hHeld ?_
  · intro W9 hSW
    (try dsimp only at hSW)
    go_simp
  try simp only [Act.put, List.setIfInBounds_toArray, List.set_cons_zero, List.set_cons_succ]
  refine wpAnyH_take (i := 4) (oi := { dst := some 25, op := _, type := _, pos := _, after := _, guard := _ }) (v := .pointer (some ⟨w.heap.size, 4, none⟩)) rfl (by kernel_rfl) (by kernel_rfl) (by kernel_rfl) (fun _ _ _ h => h) (Or.inl ⟨by rfl, ?_⟩) hHeld ?_
  · intro W9 hSW
    (try dsimp only at hSW)
    go_simp
  try simp only [Act.put, List.setIfInBounds_toArray, List.set_cons_zero, List.set_cons_succ]
  refine wpAnyH_take (i := 5) (oi := { dst := some 26, op := _, type := _, pos := _, after := _, guard := _ }) (v := .pointer vq) rfl (by kernel_rfl) (by kernel_rfl) (by kernel_rfl) (fun _ _ _ h => h) (Or.inl ⟨by rfl, ?_⟩) hHeld ?_
  · intro W9 hSW
    (try dsimp only at hSW)
    go_simp
  try simp only [Act.put, List.setIfInBounds_toArray, List.set_cons_zero, List.set_cons_succ]
  refine wpAnyH_ready (rs := [6]) (by kernel_rfl) (by simp) ?_
  refine AllReadyH.cons (o := { dst := some 27, op := _, type := _, pos := _, after := _, guard := _ }) rfl (fun K hK => ?_) AllReadyH.nil
  go_simp
  go_at_call 20
  refine HT.out.mono ?_
  rintro e w2 ⟨rfl, hb2⟩
  have hh2 : w2.heap[w.heap.size]? = some (Obj.cells #[.int .i64 2, .int .i64 at_, .string (mkT name), .pointer tq, .pointer vq, .slice no nn nc, .slice eo en ec, .slice co cn cc] 49 (0, 0)) := by rw [hb2.block _ HLT.out]; exact HH.out
  have HL2 := Lib.hid (HL.out w2 hb2)
  have HB2 := Lib.hid (HBW.out.trans (hb2.mono HSZ.out))
  have HO2 : Hid (Others b w w2) := Lib.hid (HO1.out.trans (Others.of_new hb2))
  have HH2 := Lib.hid hh2
  have HLT2 : Hid (w.heap.size < w2.heap.size) := Lib.hid (Nat.lt_of_lt_of_le HLT.out hb2.size)
  clear hb2 hh2
  refine hK.out _ _ (HCL.out _ HH2.out) (fun hHeld => ?_)
  clear hK K
  refine wpAnyH_ready (rs := [7]) (by kernel_rfl) (by simp) ?_
  refine AllReadyH.cons (o := { dst := some 28, op := _, type := _, pos := _, after := _, guard := _ }) rfl (fun K hK => ?_) AllReadyH.nil
  go_simp
  refine hK.out _ _ (HCL.out _ (by rw [Below.heap_alloc _ _ _ HLT2.out]; exact HH2.out)) (fun hHeld => ?_)
  clear hK K
  refine wpAnyH_ready (rs := [8]) (by kernel_rfl) (by simp) ?_
  refine AllReadyH.cons (o := { dst := some 29, op := _, type := _, pos := _, after := _, guard := _ }) rfl (fun K hK => ?_) AllReadyH.nil
  go_simp
  go_at_call 35
  refine HL2.out.mono ?_
  rintro e w3 ⟨rfl, h3, hb3, ho3⟩
  have H3 := Lib.hid h3
  have HB3 := Lib.hid (HB2.out.trans hb3)
  have HO3 := Lib.hid (HO2.out.trans ho3)
  have HH3 := Lib.hid (ho3.heap HNE.out (by decide) HH2.out)
  clear h3 hb3 ho3
  refine hK.out _ _ (HCL.out _ HH3.out) (fun hHeld => ?_)
  clear hK K
  refine wpAnyH_done (by kernel_rfl) ?_ _
  go_wp2_with fail
  try simp only [Exit.inBlock, Exit.then]
  go_end0
  exact ⟨rfl, H3.out, HB3.out, HO3.out⟩
set_option maxRecDepth 100000 in
set_option maxHeartbeats 12800000 in
theorem give_none {B b d : Nat} {at_ : Int} {tq no eo co : Option Addr} {nn nc en ec cn cc : Nat} {name : ByteArray} (l : List UInt8) (w : World) (h : PC B b l w) (hB : B ≤ w.heap.size) (hlen : l.length + (lineV d cReturn0).length ≤ 1000000) :
    Writes B b l (lineV d cReturn0) w 126 #[.pointer (some ⟨b, 0, none⟩), .agg #[.int .i64 8, .int .i64 at_, .string name, .pointer tq, .pointer none, .slice no nn nc, .slice eo en ec, .slice co cn cc], .int .i64 (d : Nat)] := by
  unfold Writes
  have hb := fresh_alloc w #[.int .i64 8, .int .i64 at_, .string name, .pointer tq, .pointer none, .slice no nn nc, .slice eo en ec, .slice co cn cc] 49
  have hcat : catV [mkT cReturn0] = cReturn0 := List.append_nil _
  have HL2 := Lib.hid (line_new B b d l [mkT cReturn0] (w.alloc (.cells #[.int .i64 8, .int .i64 at_, .string name, .pointer tq, .pointer none, .slice no nn nc, .slice eo en ec, .slice co cn cc] 49)) (h.fresh hb) (Nat.le_trans hB hb.size) (by rw [hcat]; exact hlen) (by simp))
  rw [hcat, alloc_size w] at HL2
  have HB2 := Lib.hid (hb.mono hB)
  have HO2 : Hid (Others b w (w.alloc (.cells #[.int .i64 8, .int .i64 at_, .string name, .pointer tq, .pointer none, .slice no nn nc, .slice eo en ec, .slice co cn cc] 49))) := Lib.hid (Others.of_new hb)
  clear h hB hlen hb hcat
  go_enter Tryz.func126, Tryz.ntmps126
  go_wp2_with fail
  refine HL2.out.mono ?_
  rintro e w3 ⟨rfl, h3, hb3, ho3⟩
  have H3 := Lib.hid h3
  have HB3 := Lib.hid (HB2.out.trans hb3)
  have HO3 := Lib.hid (HO2.out.trans ho3)
  clear h3 hb3 ho3
  go_wp2_with fail
  try simp only [Exit.inBlock, Exit.then]
  refine bodyPost_ret (results_none rfl _ _ _) rfl ?_
  exact ⟨rfl, H3.out, HB3.out, HO3.out⟩
set_option maxRecDepth 100000 in
set_option maxHeartbeats 12800000 in
theorem give_some {B b d : Nat} {at_ : Int} {tq no eo co : Option Addr} {nn nc en ec cn cc : Nat} {name : ByteArray} {val : Ex} {va : Addr} (l : List UInt8) (w : World) (h : PC B b l w) (hB : B ≤ w.heap.size) (hP : PEnv B w) (hok : ExOk val) (hV : ExIn w (fun k => k < B) (.pointer (some va)) val) (hlen : l.length + (lineV d (cReturn ++ exV 1 val)).length ≤ 1000000) :
    Writes B b l (lineV d (cReturn ++ exV 1 val)) w 126 #[.pointer (some ⟨b, 0, none⟩), .agg #[.int .i64 8, .int .i64 at_, .string name, .pointer tq, .pointer (some va), .slice no nn nc, .slice eo en ec, .slice co cn cc], .int .i64 (d : Nat)] := by
  unfold Writes
  have hb := fresh_alloc w #[.int .i64 8, .int .i64 at_, .string name, .pointer tq, .pointer (some va), .slice no nn nc, .slice eo en ec, .slice co cn cc] 49
  have hcat : catV [mkT cReturn, mkT (exV 1 val)] = cReturn ++ exV 1 val := by show cReturn ++ (exV 1 val ++ []) = _; rw [List.append_nil]
  have hl0 := hlen
  rw [lineV_len, List.length_append] at hlen
  have HT := Lib.hid (text_ex val hok (w.alloc (.cells #[.int .i64 8, .int .i64 at_, .string name, .pointer tq, .pointer (some va), .slice no nn nc, .slice eo en ec, .slice co cn cc] 49)) (.pointer (some va)) (Nat.le_trans hB hb.size) (hP.below (hb.mono hB)) (hV.below (hb.mono hB)) (by omega))
  have HL : Hid (∀ w2, Below (w.alloc (.cells #[.int .i64 8, .int .i64 at_, .string name, .pointer tq, .pointer (some va), .slice no nn nc, .slice eo en ec, .slice co cn cc] 49)).heap.size (w.alloc (.cells #[.int .i64 8, .int .i64 at_, .string name, .pointer tq, .pointer (some va), .slice no nn nc, .slice eo en ec, .slice co cn cc] 49)) w2 → Calls Tryz.prog 35 #[.pointer (some ⟨b, 0, none⟩), .int .i64 (d : Nat), .slice (some ⟨w2.heap.size, 0, none⟩) [mkT cReturn, mkT (exV 1 val)].length [mkT cReturn, mkT (exV 1 val)].length] (w2.alloc (.cells ([mkT cReturn, mkT (exV 1 val)].map Value.string).toArray 9)) fun e w' => e = .returned (.tuple #[]) ∧ PC B b (l ++ lineV d (cReturn ++ exV 1 val)) w' ∧ Below B w2 w' ∧ Others b w2 w') := Lib.hid fun w2 hb2 => by
    have := line_new B b d l [mkT cReturn, mkT (exV 1 val)] w2 ((h.fresh hb).fresh hb2) (Nat.le_trans hB (Nat.le_trans hb.size hb2.size)) (by rw [hcat]; exact hl0) (by simp)
    rw [hcat] at this
    exact this
  have HBW := Lib.hid (hb.mono hB)
  have HSZ : Hid (B ≤ (w.alloc (.cells #[.int .i64 8, .int .i64 at_, .string name, .pointer tq, .pointer (some va), .slice no nn nc, .slice eo en ec, .slice co cn cc] 49)).heap.size) := Lib.hid (Nat.le_trans hB hb.size)
  have HO1 : Hid (Others b w (w.alloc (.cells #[.int .i64 8, .int .i64 at_, .string name, .pointer tq, .pointer (some va), .slice no nn nc, .slice eo en ec, .slice co cn cc] 49))) := Lib.hid (Others.of_new hb)
  clear h hB hP hV hlen hl0 hb hcat hok
  go_enter Tryz.func126, Tryz.ntmps126
  go_wp2_with fail
  refine HT.out.mono ?_
  rintro e w2 ⟨rfl, hb2⟩
  have HL2 := Lib.hid (HL.out w2 hb2)
  have HB2 := Lib.hid (HBW.out.trans (hb2.mono HSZ.out))
  have HO2 : Hid (Others b w w2) := Lib.hid (HO1.out.trans (Others.of_new hb2))
  clear hb2
  go_wp2_with fail
  refine HL2.out.mono ?_
  rintro e w3 ⟨rfl, h3, hb3, ho3⟩
  have H3 := Lib.hid h3
  have HB3 := Lib.hid (HB2.out.trans hb3)
  have HO3 := Lib.hid (HO2.out.trans ho3)
  clear h3 hb3 ho3
  go_wp2_with fail
  try simp only [Exit.inBlock, Exit.then]
  go_end0
  exact ⟨rfl, H3.out, HB3.out, HO3.out⟩
theorem give_any {B b d : Nat} {at_ : Int} {tq vq no eo co : Option Addr} {nn nc en ec cn cc : Nat} {name : ByteArray} {val : Ex} (l : List UInt8) (w : World) (h : PC B b l w) (hB : B ≤ w.heap.size) (hP : PEnv B w) (hok : ExOk val) (hV : ExIn w (fun k => k < B) (.pointer vq) val) (hlen : l.length + (giveV d val).length ≤ 1000000) :
    Writes B b l (giveV d val) w 126 #[.pointer (some ⟨b, 0, none⟩), .agg #[.int .i64 8, .int .i64 at_, .string name, .pointer tq, .pointer vq, .slice no nn nc, .slice eo en ec, .slice co cn cc], .int .i64 (d : Nat)] := by
  cases val with
  | nil =>
    have e : Value.pointer vq = .pointer none := hV
    injection e with e
    subst e
    exact give_none l w h hB hlen
  | mk =>
    obtain ⟨bk, lv, rv, av, e, h2⟩ := hV
    injection e with e
    subst e
    exact give_some l w h hB hP hok ⟨bk, lv, rv, av, rfl, h2⟩ hlen
set_option maxRecDepth 100000 in
set_option maxHeartbeats 12800000 in
theorem stmt_return {B b d : Nat} {at_ : Int} {tq vq no eo co : Option Addr} {nn nc en ec cn cc : Nat} {name : ByteArray} {val : Ex} (l : List UInt8) (w : World) (h : PC B b l w) (hB : B ≤ w.heap.size) (hP : PEnv B w) (hok : ExOk val) (hV : ExIn w (fun k => k < B) (.pointer vq) val) (hlen : l.length + (giveV d val).length ≤ 1000000) :
    Writes B b l (giveV d val) w 97 #[.pointer (some ⟨b, 0, none⟩), .agg #[.int .i64 8, .int .i64 at_, .string name, .pointer tq, .pointer vq, .slice no nn nc, .slice eo en ec, .slice co cn cc], .int .i64 (d : Nat)] := by
  unfold Writes
  have hb := fresh_alloc w #[.int .i64 8, .int .i64 at_, .string name, .pointer tq, .pointer vq, .slice no nn nc, .slice eo en ec, .slice co cn cc] 49
  have HG := Lib.hid (give_any (at_ := at_) (tq := tq) (no := no) (eo := eo) (co := co) (nn := nn) (nc := nc) (en := en) (ec := ec) (cn := cn) (cc := cc) (name := name) (d := d) l (w.alloc (.cells #[.int .i64 8, .int .i64 at_, .string name, .pointer tq, .pointer vq, .slice no nn nc, .slice eo en ec, .slice co cn cc] 49)) (h.fresh hb) (Nat.le_trans hB hb.size) (hP.below (hb.mono hB)) hok (hV.below (hb.mono hB)) hlen)
  have HB2 := Lib.hid (hb.mono hB)
  have HO2 : Hid (Others b w (w.alloc (.cells #[.int .i64 8, .int .i64 at_, .string name, .pointer tq, .pointer vq, .slice no nn nc, .slice eo en ec, .slice co cn cc] 49))) := Lib.hid (Others.of_new hb)
  clear h hB hP hV hlen hb hok
  go_enter Tryz.func97, Tryz.ntmps97
  go_wp2_with fail
  refine HG.out.mono ?_
  rintro e w3 ⟨rfl, h3, hb3, ho3⟩
  have H3 := Lib.hid h3
  have HB3 := Lib.hid (HB2.out.trans hb3)
  have HO3 := Lib.hid (HO2.out.trans ho3)
  clear h3 hb3 ho3
  go_wp2_with fail
  try simp only [Exit.inBlock, Exit.then]
  go_end0
  exact ⟨rfl, H3.out, HB3.out, HO3.out⟩
end Go.Proofs.YtgonbmcojjcabaaGreatDoor

namespace Go.Proofs.YtgonbmcojjcabaaGreatDoor
open Go.RowKit Lx Tr
variable {w w' : World}

set_option maxRecDepth 100000 in
set_option maxHeartbeats 6400000 in
theorem ptalk_send {B : Nat} {at_ : Int} {tq vq no : Option Addr} {nn nc : Nat} {name : Lx.B} {dst val : Ex} (w : World) (hB : B ≤ w.heap.size) (hP : PEnv B w) (hokd : ExOk dst) (hok : ExOk val) (hD : ExIn w (fun k => k < B) (.pointer tq) dst) (hV : ExIn w (fun k => k < B) (.pointer vq) val) (hlen : (cCase ++ sentV dst val).length ≤ 1000000) :
    Tells w 152 #[.agg #[.int .i64 3, .int .i64 at_, .string (mkT name), .pointer tq, .pointer vq, .slice no nn nc]] (cCase ++ sentV dst val) := by
  unfold Tells
  have hb := fresh_alloc w #[.int .i64 3, .int .i64 at_, .string (mkT name), .pointer tq, .pointer vq, .slice no nn nc] 153
  rw [List.length_append] at hlen
  have hl : 5 + (sentV dst val).length ≤ 1000000 := hlen
  have HT := Lib.hid (sent_ex dst val hokd hok (w.alloc (.cells #[.int .i64 3, .int .i64 at_, .string (mkT name), .pointer tq, .pointer vq, .slice no nn nc] 153)) (.pointer tq) (.pointer vq) (Nat.le_trans hB hb.size) (hP.below (hb.mono hB)) (hD.below (hb.mono hB)) (hV.below (hb.mono hB)) (by omega))
  have hs1 : ¬ 9223372036854775807 < 5 + (mkT (sentV dst val)).size := by rw [mkT_size]; omega
  have HB := Lib.hid hb
  clear hB hP hokd hok hD hV hlen hl hb
  go_enter Tryz.func152, Tryz.ntmps152
  go_wp2_with fail
  refine HT.out.mono ?_
  rintro e w2 ⟨rfl, hb2⟩
  have HB2 := Lib.hid (HB.out.trans (hb2.mono HB.out.size))
  clear hb2
  go_wp2_with fail
  try simp only [Exit.inBlock, Exit.then]
  go_ret
  refine ⟨?_, HB2.out⟩
  exact congrArg Ending.returned (congrArg Value.string (mkT_app cCase (sentV dst val)))
set_option maxRecDepth 100000 in
set_option maxHeartbeats 6400000 in
theorem ptalk_default {B : Nat} {at_ : Int} {tq vq no : Option Addr} {nn nc : Nat} {name : ByteArray} {code : Nat} (w : World) (h3 : code ≠ 3) (h10 : code ≠ 10) (_ : B = 0) :
    Tells w 152 #[.agg #[.int .i64 (code : Nat), .int .i64 at_, .string name, .pointer tq, .pointer vq, .slice no nn nc]] (cDefault) := by
  unfold Tells
  have hb := fresh_alloc w #[.int .i64 (code : Nat), .int .i64 at_, .string name, .pointer tq, .pointer vq, .slice no nn nc] 153
  have e3 : ((code : Int) == 3) = false := beq_eq_false_iff_ne.2 (by omega)
  have e10 : ((code : Int) == 10) = false := beq_eq_false_iff_ne.2 (by omega)
  have HB := Lib.hid hb
  clear hb h3 h10
  go_enter Tryz.func152, Tryz.ntmps152
  go_wp2_with fail
  try simp only [Exit.inBlock, Exit.then]
  go_ret
  exact ⟨rfl, HB.out⟩
set_option maxRecDepth 100000 in
set_option maxHeartbeats 6400000 in
theorem ptalk_recv {B : Nat} {at_ : Int} {tq vq no : Option Addr} {nn nc : Nat} {dst : Ex} (w : World) (hB : B ≤ w.heap.size) (hP : PEnv B w) (hokd : ExOk dst) (hD : ExIn w (fun k => k < B) (.pointer tq) dst) (hlen : (cCaseRecv ++ exV 6 dst).length ≤ 1000000) :
    Tells w 152 #[.agg #[.int .i64 10, .int .i64 at_, .string (mkT []), .pointer tq, .pointer vq, .slice no nn nc]] (cCaseRecv ++ exV 6 dst) := by
  unfold Tells
  have hb := fresh_alloc w #[.int .i64 10, .int .i64 at_, .string (mkT []), .pointer tq, .pointer vq, .slice no nn nc] 153
  rw [List.length_append] at hlen
  have hl : 7 + (exV 6 dst).length ≤ 1000000 := hlen
  have HT := Lib.hid (written_ex dst hokd 6 (w.alloc (.cells #[.int .i64 10, .int .i64 at_, .string (mkT []), .pointer tq, .pointer vq, .slice no nn nc] 153)) (.pointer tq) (Nat.le_trans hB hb.size) (hP.below (hb.mono hB)) (hD.below (hb.mono hB)) (by omega))
  have hs1 : ¬ 9223372036854775807 < 7 + (mkT (exV 6 dst)).size := by rw [mkT_size]; omega
  have hne : (mkT []).toList.isEmpty = true := by rw [Lib.toList_data]; rfl
  have HB := Lib.hid hb
  clear hB hP hokd hD hlen hl hb
  go_enter Tryz.func152, Tryz.ntmps152
  go_wp2_with fail
  refine HT.out.mono ?_
  rintro e w2 ⟨rfl, hb2⟩
  have HB2 := Lib.hid (HB.out.trans (hb2.mono HB.out.size))
  clear hb2
  go_wp2_with fail
  try simp only [Exit.inBlock, Exit.then]
  go_ret
  refine ⟨?_, HB2.out⟩
  exact congrArg Ending.returned (congrArg Value.string (mkT_app cCaseRecv (exV 6 dst)))
set_option maxRecDepth 100000 in
set_option maxHeartbeats 6400000 in
theorem ptalk_let {B : Nat} {at_ : Int} {tq vq no : Option Addr} {nn nc : Nat} {name : Lx.B} {dst : Ex} (w : World) (hn : name ≠ []) (hB : B ≤ w.heap.size) (hP : PEnv B w) (hokd : ExOk dst) (hD : ExIn w (fun k => k < B) (.pointer tq) dst) (hlen : (cCase ++ (name ++ (cLetRecv ++ exV 6 dst))).length ≤ 1000000) :
    Tells w 152 #[.agg #[.int .i64 10, .int .i64 at_, .string (mkT name), .pointer tq, .pointer vq, .slice no nn nc]] (cCase ++ (name ++ (cLetRecv ++ exV 6 dst))) := by
  unfold Tells
  have hb := fresh_alloc w #[.int .i64 10, .int .i64 at_, .string (mkT name), .pointer tq, .pointer vq, .slice no nn nc] 153
  simp only [List.length_append] at hlen
  have hl : 5 + (List.length name + (6 + (exV 6 dst).length)) ≤ 1000000 := hlen
  have hbd : Below w.heap.size w (w.alloc (.cells #[.int .i64 10, .int .i64 at_, .string (mkT name), .pointer tq, .pointer vq, .slice no nn nc] 153)).drew := hb.trans (Below.drew (Below.refl _ _))
  have HT := Lib.hid (written_ex dst hokd 6 (w.alloc (.cells #[.int .i64 10, .int .i64 at_, .string (mkT name), .pointer tq, .pointer vq, .slice no nn nc] 153)).drew (.pointer tq) (Nat.le_trans hB hbd.size) (hP.below (hbd.mono hB)) (hD.below (hbd.mono hB)) (by omega))
  have hs1 : ¬ 9223372036854775807 < 5 + (mkT name).size := by rw [mkT_size]; omega
  have hs2 : ¬ 9223372036854775807 < 5 + (mkT name).size + 6 := by rw [mkT_size]; omega
  have hs3 : ¬ 9223372036854775807 < 5 + (mkT name).size + 6 + (mkT (exV 6 dst)).size := by rw [mkT_size, mkT_size]; omega
  have hne : (mkT name).toList.isEmpty = false := by
    rw [Lib.toList_data]
    cases name with
    | nil => exact absurd rfl hn
    | cons => rfl
  have HB := Lib.hid hbd
  have HLT : Hid (w.heap.size < (w.alloc (.cells #[.int .i64 10, .int .i64 at_, .string (mkT name), .pointer tq, .pointer vq, .slice no nn nc] 153)).drew.heap.size) := Lib.hid (by show w.heap.size < (w.alloc (.cells #[.int .i64 10, .int .i64 at_, .string (mkT name), .pointer tq, .pointer vq, .slice no nn nc] 153)).heap.size; rw [alloc_size]; exact Nat.lt_succ_self _)
  have HH : Hid ((w.alloc (.cells #[.int .i64 10, .int .i64 at_, .string (mkT name), .pointer tq, .pointer vq, .slice no nn nc] 153)).drew.heap[w.heap.size]? = some (Obj.cells #[.int .i64 10, .int .i64 at_, .string (mkT name), .pointer tq, .pointer vq, .slice no nn nc] 153 (0, 0))) := Lib.hid (heap_alloc_new w _)
  have HCL : Hid (∀ V : World, V.heap[w.heap.size]? = some (Obj.cells #[.int .i64 10, .int .i64 at_, .string (mkT name), .pointer tq, .pointer vq, .slice no nn nc] 153 (0, 0)) → V.cell? ⟨w.heap.size, 2, none⟩ = some (.string (mkT name)) ∧ V.cell? ⟨w.heap.size, 3, none⟩ = some (.pointer tq)) := Lib.hid fun V hV => ⟨by rw [Lib.cell_of_heap hV]; rfl, by rw [Lib.cell_of_heap hV]; rfl⟩
  clear hB hP hokd hD hlen hl hb hbd hn
  go_enter Tryz.func152, Tryz.ntmps152
  go_wp2_with fail
  refine wp_region_held_drew (S := (fun W' : World => W'.cell? ⟨w.heap.size, 2, none⟩ = some (.string (mkT name)) ∧ W'.cell? ⟨w.heap.size, 3, none⟩ = some (.pointer tq))) (by kernel_rfl) (HCL.out _ HH.out) (fun hHeld => ?_)
  refine wpAnyH_take (i := 0) (oi := { dst := some 22, op := _, type := _, pos := _, after := _, guard := _ }) (v := .pointer (some ⟨w.heap.size, 2, none⟩)) rfl (by kernel_rfl) (by kernel_rfl) (by kernel_rfl) (fun _ _ _ h => h) (Or.inl ⟨by rfl, ?_⟩) hHeld ?_
  · intro W9 hSW
    (try dsimp only at hSW)
    go_simp
  try simp only [Act.put, List.setIfInBounds_toArray, List.set_cons_zero, List.set_cons_succ]
  refine wpAnyH_take (i := 1) (oi := { dst := some 23, op := _, type := _, pos := _, after := _, guard := _ }) (v := .string (mkT name)) rfl (by kernel_rfl) (by kernel_rfl) (by kernel_rfl) (fun _ _ _ h => h) (Or.inl ⟨by rfl, ?_⟩) hHeld ?_
  · intro W9 hSW
    (try dsimp only at hSW)
    go_simp
  try simp only [Act.put, List.setIfInBounds_toArray, List.set_cons_zero, List.set_cons_succ]
  refine wpAnyH_take (i := 2) (oi := { dst := some 24, op := _, type := _, pos := _, after := _, guard := _ }) (v := .string (⟨#[99, 97, 115, 101, 32]⟩ ++ mkT name)) rfl (by kernel_rfl) (by kernel_rfl) (by kernel_rfl) (fun _ _ _ h => h) (Or.inl ⟨by rfl, ?_⟩) hHeld ?_
  · intro W9 hSW
    (try dsimp only at hSW)
    go_simp
  try simp only [Act.put, List.setIfInBounds_toArray, List.set_cons_zero, List.set_cons_succ]
  refine wpAnyH_take (i := 3) (oi := { dst := some 25, op := _, type := _, pos := _, after := _, guard := _ }) (v := .string (⟨#[99, 97, 115, 101, 32]⟩ ++ mkT name ++ ⟨#[32, 58, 61, 32, 60, 45]⟩)) rfl (by kernel_rfl) (by kernel_rfl) (by kernel_rfl) (fun _ _ _ h => h) (Or.inl ⟨by rfl, ?_⟩) hHeld ?_
  · intro W9 hSW
    (try dsimp only at hSW)
    go_simp
  try simp only [Act.put, List.setIfInBounds_toArray, List.set_cons_zero, List.set_cons_succ]
  refine wpAnyH_take (i := 4) (oi := { dst := some 26, op := _, type := _, pos := _, after := _, guard := _ }) (v := .pointer (some ⟨w.heap.size, 3, none⟩)) rfl (by kernel_rfl) (by kernel_rfl) (by kernel_rfl) (fun _ _ _ h => h) (Or.inl ⟨by rfl, ?_⟩) hHeld ?_
  · intro W9 hSW
    (try dsimp only at hSW)
    go_simp
  try simp only [Act.put, List.setIfInBounds_toArray, List.set_cons_zero, List.set_cons_succ]
  refine wpAnyH_take (i := 5) (oi := { dst := some 27, op := _, type := _, pos := _, after := _, guard := _ }) (v := .pointer tq) rfl (by kernel_rfl) (by kernel_rfl) (by kernel_rfl) (fun _ _ _ h => h) (Or.inl ⟨by rfl, ?_⟩) hHeld ?_
  · intro W9 hSW
    (try dsimp only at hSW)
    go_simp
  try simp only [Act.put, List.setIfInBounds_toArray, List.set_cons_zero, List.set_cons_succ]
  refine wpAnyH_ready (rs := [6]) (by kernel_rfl) (by simp) ?_
  refine AllReadyH.cons (o := { dst := some 28, op := _, type := _, pos := _, after := _, guard := _ }) rfl (fun K hK => ?_) AllReadyH.nil
  go_simp
  go_at_call 42
  refine HT.out.mono ?_
  rintro e w2 ⟨rfl, hb2⟩
  have hh2 : w2.heap[w.heap.size]? = some (Obj.cells #[.int .i64 10, .int .i64 at_, .string (mkT name), .pointer tq, .pointer vq, .slice no nn nc] 153 (0, 0)) := by rw [hb2.block _ HLT.out]; exact HH.out
  have HB2 := Lib.hid (HB.out.trans (hb2.mono HB.out.size))
  have HH2 := Lib.hid hh2
  clear hb2 hh2
  refine hK.out _ _ (HCL.out _ HH2.out) (fun hHeld => ?_)
  clear hK K
  refine wpAnyH_take (i := 7) (oi := { dst := some 29, op := _, type := _, pos := _, after := _, guard := _ }) (v := .string (⟨#[99, 97, 115, 101, 32]⟩ ++ mkT name ++ ⟨#[32, 58, 61, 32, 60, 45]⟩ ++ mkT (exV 6 dst))) rfl (by kernel_rfl) (by kernel_rfl) (by kernel_rfl) (fun _ _ _ h => h) (Or.inl ⟨by rfl, ?_⟩) hHeld ?_
  · intro W9 hSW
    (try dsimp only at hSW)
    go_simp
  try simp only [Act.put, List.setIfInBounds_toArray, List.set_cons_zero, List.set_cons_succ]
  refine wpAnyH_take (i := 8) (oi := { dst := some 2, op := _, type := _, pos := _, after := _, guard := _ }) (v := .string (⟨#[99, 97, 115, 101, 32]⟩ ++ mkT name ++ ⟨#[32, 58, 61, 32, 60, 45]⟩ ++ mkT (exV 6 dst))) rfl (by kernel_rfl) (by kernel_rfl) (by kernel_rfl) (fun _ _ _ h => h) (Or.inl ⟨by rfl, ?_⟩) hHeld ?_
  · intro W9 hSW
    (try dsimp only at hSW)
    go_simp
  try simp only [Act.put, List.setIfInBounds_toArray, List.set_cons_zero, List.set_cons_succ]
  refine wpAnyH_done (by kernel_rfl) ?_ _
  go_wp2_with fail
  try simp only [Exit.inBlock, Exit.then]
  go_ret
  refine ⟨?_, HB2.out⟩
  refine congrArg Ending.returned (congrArg Value.string ?_)
  show mkT cCase ++ mkT name ++ mkT cLetRecv ++ mkT (exV 6 dst) = _
  rw [mkT_app, mkT_app, mkT_app, List.append_assoc, List.append_assoc]
theorem ptalk_any {B : Nat} {at_ : Int} {tq vq no : Option Addr} {nn nc : Nat} {name : Lx.B} {code : Nat} {dst val : Ex} (w : World) (hB : B ≤ w.heap.size) (hP : PEnv B w) (hokd : ExOk dst) (hok : ExOk val) (hD : ExIn w (fun k => k < B) (.pointer tq) dst) (hV : ExIn w (fun k => k < B) (.pointer vq) val) (hlen : (talkV code name dst val).length ≤ 1000000) :
    Tells w 152 #[.agg #[.int .i64 (code : Nat), .int .i64 at_, .string (mkT name), .pointer tq, .pointer vq, .slice no nn nc]] (talkV code name dst val) := by
  by_cases h3 : code = 3
  · subst h3
    exact ptalk_send w hB hP hokd hok hD hV hlen
  · by_cases h10 : code = 10
    · subst h10
      by_cases hn : name = []
      · subst hn
        exact ptalk_recv w hB hP hokd hD hlen
      · have e : talkV 10 name dst val = cCase ++ (name ++ (cLetRecv ++ exV 6 dst)) := by show (if name = [] then _ else _) = _; rw [if_neg hn]
        rw [e] at hlen ⊢
        exact ptalk_let w hn hB hP hokd hD hlen
    · have e : talkV code name dst val = cDefault := by unfold talkV; rw [if_neg h3, if_neg h10]
      rw [e]
      exact ptalk_default (B := 0) w h3 h10 rfl
end Go.Proofs.YtgonbmcojjcabaaGreatDoor

namespace Go.Proofs.YtgonbmcojjcabaaGreatDoor
open Go.RowKit Lx Tr
variable {w w' : World}

def Tr.Sts.toList : Sts → List St
  | .nil => []
  | .cons x xs => x :: xs.toList
theorem sts_len : ∀ xs : Sts, xs.toList.length = xs.len
  | .nil => rfl
  | .cons _ xs => congrArg (· + 1) (sts_len xs)
def stsL (d : Nat) : List St → Lx.B
  | [] => []
  | x :: xs => stV d x ++ stsL d xs
theorem stsV_list (d : Nat) : ∀ xs : Sts, stsV d xs = stsL d xs.toList
  | .nil => by rw [stsV]; rfl
  | .cons x xs => by rw [stsV, stsV_list d xs]; rfl
theorem stsL_snoc (d : Nat) : ∀ (l : List St) (x : St), stsL d (l ++ [x]) = stsL d l ++ stV d x
  | [], x => by show stV d x ++ [] = [] ++ stV d x; rw [List.append_nil, List.nil_append]
  | y :: l, x => by show stV d y ++ stsL d (l ++ [x]) = _; rw [stsL_snoc d l x, ← List.append_assoc]; rfl
theorem stsL_le (d : Nat) : ∀ (l : List St) (k : Nat), (stsL d (l.take k)).length ≤ (stsL d l).length
  | [], k => by simp [stsL]
  | x :: xs, 0 => Nat.zero_le _
  | x :: xs, k + 1 => by
    show (stV d x ++ stsL d (xs.take k)).length ≤ (stV d x ++ stsL d xs).length
    have := stsL_le d xs k
    simp only [List.length_append]
    omega
theorem stsIn_at {F : Nat → Prop} {g : Nat} : ∀ (xs : Sts) (i : Nat), StsIn w F g i xs → ∀ (j : Nat) (x : St), xs.toList[j]? = some x → StIn w F g ((i + j) * 8) x
  | .nil, _, _, j, x, h => by simp [Tr.Sts.toList] at h
  | .cons y ys, i, ⟨h1, _⟩, 0, x, h => by
    have e : y = x := by simpa [Tr.Sts.toList] using h
    subst e
    exact h1
  | .cons y ys, i, ⟨_, h2⟩, j + 1, x, h => by
    have := stsIn_at ys (i + 1) h2 j x (by simpa [Tr.Sts.toList] using h)
    rw [show i + (j + 1) = i + 1 + j by omega]; exact this
theorem slAt_form {F : Nat → Prop} {v : Value} {n : Nat} (h : SlAt F v n) : ∃ o m c, v = .slice o m c := by
  rcases h with ⟨e, _⟩ | ⟨g, cap, e, _⟩ <;> exact ⟨_, _, _, e⟩
theorem StV.below {B : Nat} {tv vv nv ev cv : Value} {dst val : Ex} {thn els : Sts} {cases : Cas} (h : StV w (fun k => k < B) tv vv nv ev cv dst val thn els cases) (hb : Below B w w') : StV w' (fun k => k < B) tv vv nv ev cv dst val thn els cases := by
  have hk : Keeps (fun k => B ≤ k) w w' := Keeps.of_below (S := fun k => B ≤ k) hb (fun _ _ e => e)
  have hF : ∀ b, b < B → ¬ B ≤ b := fun b h1 h2 => by omega
  obtain ⟨h1, h2, h3, h4, h5, h6, h7, h8⟩ := h
  exact ⟨h1.keeps hk hF, h2.keeps hk hF, h3, fun g n cap e => StsIn.keeps hk hF g (h3.mem e) 0 thn (h4 g n cap e), h5, fun g n cap e => StsIn.keeps hk hF g (h5.mem e) 0 els (h6 g n cap e), h7, fun g n cap e => CasIn.keeps hk hF g (h7.mem e) 0 cases (h8 g n cap e)⟩
/-- What is asked of stmt, of stmts. -/
def StW (B b : Nat) : St → Prop
  | .mk code at_ name dst val thn els cases => ∀ (l : List UInt8) (w : World) (d : Nat) (tq vq no eo co : Option Addr) (nn nc en ec cn cc : Nat), PC B b l w → B ≤ w.heap.size → PEnv B w →
      StV w (fun k => k < B) (.pointer tq) (.pointer vq) (.slice no nn nc) (.slice eo en ec) (.slice co cn cc) dst val thn els cases → l.length + (stV d (.mk code at_ name dst val thn els cases)).length ≤ 1000000 →
      Writes B b l (stV d (.mk code at_ name dst val thn els cases)) w 97 #[.pointer (some ⟨b, 0, none⟩), .agg #[.int .i64 (code : Nat), .int .i64 (at_ : Nat), .string (mkT name), .pointer tq, .pointer vq, .slice no nn nc, .slice eo en ec, .slice co cn cc], .int .i64 (d : Nat)]
def StsW (B b : Nat) (xs : Sts) : Prop := ∀ (l : List UInt8) (w : World) (d : Nat) (o : Option Addr) (n c : Nat), PC B b l w → B ≤ w.heap.size → PEnv B w → SlAt (fun k => k < B) (.slice o n c) xs.len → (∀ g n' cap, Value.slice o n c = .slice (some ⟨g, 0, none⟩) n' cap → StsIn w (fun k => k < B) g 0 xs) → l.length + (stsV d xs).length ≤ 1000000 →
      Writes B b l (stsV d xs) w 67 #[.pointer (some ⟨b, 0, none⟩), .slice o n c, .int .i64 (d : Nat)]

set_option maxRecDepth 100000 in
set_option maxHeartbeats 12800000 in
theorem stmts_any {B b : Nat} (xs : Sts) (hA : ∀ x ∈ xs.toList, StW B b x) : StsW B b xs := by
  intro l w d o n c h hB hP hs hi hlen
  unfold Writes
  rw [stsV_list] at hlen ⊢
  have hn : n = xs.toList.length := by
    rw [sts_len]
    rcases hs with ⟨e, e2⟩ | ⟨g, cap, e, _⟩
    · rw [e2]; injection e
    · injection e
  subst hn
  have hn0 : xs.toList.length ≤ 9223372036854775807 := by
    rw [sts_len]
    rcases hs with ⟨_, e2⟩ | ⟨g, cap, _, h1, h2, _⟩
    · omega
    · unfold maxLen at h2; omega
  have HA := Lib.hid hA
  have HH := Lib.hid h
  have HB := Lib.hid hB
  have HP := Lib.hid hP
  have HLN := Lib.hid hlen
  have HG : Hid (∀ k x, xs.toList[k]? = some x → ∃ g, o = some ⟨g, 0, none⟩ ∧ g < B ∧ StIn w (fun k => k < B) g (k * 8) x) := Lib.hid fun k x hx => by
    rcases hs with ⟨e, e2⟩ | ⟨g, cap, e, _, _, _, hg⟩
    · rw [← sts_len] at e2
      have := List.getElem?_eq_none (l := xs.toList) (i := k) (by omega)
      rw [this] at hx; cases hx
    · have hst := hi g _ _ e
      injection e with e1 _ _
      refine ⟨g, e1, hg, ?_⟩
      have := stsIn_at xs 0 hst k x hx
      rw [Nat.zero_add] at this; exact this
  clear hA h hB hP hs hi hlen
  go_enter Tryz.func67, Tryz.ntmps67
  go_wp2_with fail
  go_loopw [10, 7] (fun i _ wr => ∃ k : Nat, k ≤ xs.toList.length ∧ i = .int .i64 k ∧ PC B b (l ++ stsL d (xs.toList.take k)) wr ∧ Below B w wr ∧ Others b w wr) (fun i _ _ => xs.toList.length - (intOf i).toNat)
  case atStart => exact ⟨0, Nat.zero_le _, rfl, by rw [List.take_zero]; show PC B b (l ++ []) w; rw [List.append_nil]; exact HH.out, Below.refl _ _, Others.refl _ _⟩
  case round =>
    obtain ⟨k, hk, rfl, hp, hb, ho⟩ := hrel
    have HPP := Lib.hid hp
    have HBL := Lib.hid hb
    have HO := Lib.hid ho
    clear hp hb ho
    by_cases hlt : k < xs.toList.length
    · obtain ⟨x, hkx⟩ : ∃ x, xs.toList[k]? = some x := ⟨_, List.getElem?_eq_getElem hlt⟩
      obtain ⟨g, rfl, hg, hst⟩ := HG.out k x hkx
      have hmem : x ∈ xs.toList := List.mem_of_getElem? hkx
      have htk : stsL d (xs.toList.take (k + 1)) = stsL d (xs.toList.take k) ++ stV d x := by rw [List.take_add_one, hkx]; exact stsL_snoc d _ x
      have hle := stsL_le d xs.toList (k + 1)
      rw [htk, List.length_append] at hle
      have HW := Lib.hid (HA.out x hmem)
      obtain ⟨code, at_, name, dst, val, thn, els, cases⟩ := x
      obtain ⟨tv, vv, nv, ev, cv, c0, c1, c2, c3, c4, c5, c6, c7, hv⟩ := hst
      obtain ⟨tq, rfl⟩ := exIn_ptr hv.1
      obtain ⟨vq, rfl⟩ := exIn_ptr hv.2.1
      obtain ⟨no, nn, nc, rfl⟩ := slAt_form hv.2.2.1
      obtain ⟨eo, en, ec, rfl⟩ := slAt_form hv.2.2.2.2.1
      obtain ⟨co, cn, cc, rfl⟩ := slAt_form hv.2.2.2.2.2.2.1
      rw [← HBL.out.cell (p := ⟨g, k * 8, none⟩) hg] at c0
      rw [← HBL.out.cell (p := ⟨g, k * 8 + 1, none⟩) hg] at c1
      rw [← HBL.out.cell (p := ⟨g, k * 8 + 2, none⟩) hg] at c2
      rw [← HBL.out.cell (p := ⟨g, k * 8 + 3, none⟩) hg] at c3
      rw [← HBL.out.cell (p := ⟨g, k * 8 + 4, none⟩) hg] at c4
      rw [← HBL.out.cell (p := ⟨g, k * 8 + 5, none⟩) hg] at c5
      rw [← HBL.out.cell (p := ⟨g, k * 8 + 6, none⟩) hg] at c6
      rw [← HBL.out.cell (p := ⟨g, k * 8 + 7, none⟩) hg] at c7
      have hki : (k : Int) < (xs.toList.length : Int) := by omega
      have hkii : (0 : Int) ≤ (k : Int) ∧ (k : Int) < (xs.toList.length : Int) := by omega
      have hw : IntKind.i64.wrap ((k : Int) + 1) = (k : Int) + 1 := IntWalk.i64_in _ (by omega)
      have HTK := Lib.hid htk
      have HC : Hid (∀ W, Below wr.heap.size wr W → Writes B b (l ++ stsL d (xs.toList.take k)) (stV d (.mk code at_ name dst val thn els cases)) W 97 #[.pointer (some ⟨b, 0, none⟩), .agg #[.int .i64 (code : Nat), .int .i64 (at_ : Nat), .string (mkT name), .pointer tq, .pointer vq, .slice no nn nc, .slice eo en ec, .slice co cn cc], .int .i64 (d : Nat)]) := Lib.hid fun W hW =>
        HW.out _ W d tq vq no eo co nn nc en ec cn cc (HPP.out.fresh hW) (Nat.le_trans HB.out (Nat.le_trans HBL.out.size hW.size)) (HP.out.below (HBL.out.trans (hW.mono (Nat.le_trans HB.out HBL.out.size)))) (StV.below hv (HBL.out.trans (hW.mono (Nat.le_trans HB.out HBL.out.size)))) (by have := HLN.out; rw [List.length_append]; omega)
      have HSZ : Hid (B ≤ wr.heap.size) := Lib.hid (Nat.le_trans HB.out HBL.out.size)
      clear hkx hg hmem htk hle hv
      go_wp2_with fail
      refine (HC.out _ (fresh_alloc _ _ _)).mono ?_
      rintro e w2 ⟨rfl, h2, hb2, ho2⟩
      have H2 : Hid (PC B b (l ++ stsL d (xs.toList.take (k + 1))) w2) := Lib.hid (by rw [HTK.out, ← List.append_assoc]; exact h2)
      have HB2 := Lib.hid (HBL.out.trans (((fresh_alloc wr _ _).mono HSZ.out).trans hb2))
      have HO2 := Lib.hid (HO.out.trans ((Others.of_new (fresh_alloc wr _ _)).trans ho2))
      clear h2 hb2 ho2
      go_wp2_with fail
      exact ⟨⟨k + 1, by omega, by simp, H2.out, HB2.out, HO2.out⟩, by simp [intOf]; omega⟩
    · have hki : ¬ (k : Int) < (xs.toList.length : Int) := by omega
      have hkk : k = xs.toList.length := by omega
      have HKK := Lib.hid hkk
      clear hkk
      go_wp2_with fail
      go_end0
      refine ⟨rfl, ?_, HBL.out, HO.out⟩
      have h1 := HPP.out
      rw [HKK.out, List.take_length] at h1
      exact h1
end Go.Proofs.YtgonbmcojjcabaaGreatDoor

namespace Go.Proofs.YtgonbmcojjcabaaGreatDoor
open Go.RowKit Lx Tr
variable {w w' : World}

theorem catV1 (c : Lx.B) : catV [mkT c] = c := List.append_nil c
theorem catV3 (a c e : Lx.B) : catV [mkT a, mkT c, mkT e] = a ++ (c ++ e) := by show a ++ (c ++ (e ++ [])) = _; rw [List.append_nil]
theorem catV2 (a c : Lx.B) : catV [mkT a, mkT c] = a ++ c := by show a ++ (c ++ []) = _; rw [List.append_nil]
theorem slAt_len {F : Nat → Prop} {o : Option Addr} {n c m : Nat} (h : SlAt F (.slice o n c) m) : n = m := by
  rcases h with ⟨e, e2⟩ | ⟨g, cap, e, _⟩
  · rw [e2]; injection e
  · injection e

set_option maxRecDepth 100000 in
set_option maxHeartbeats 12800000 in
theorem stmt_for {B b d : Nat} {at_ : Nat} {tq vq no eo co : Option Addr} {nn nc en ec cn cc : Nat} {name : Lx.B} {dst val : Ex} {thn els : Sts} {cases : Cas} (hTh : StsW B b thn) (hok : ExOk val) (l : List UInt8) (w : World) (h : PC B b l w) (hB : B ≤ w.heap.size) (hP : PEnv B w) (hv : StV w (fun k => k < B) (.pointer tq) (.pointer vq) (.slice no nn nc) (.slice eo en ec) (.slice co cn cc) dst val thn els cases) (hlen : l.length + (lineV d (cFor ++ (exV 1 val ++ cOpen)) ++ (stsV (d + 1) thn ++ lineV d cEnd)).length ≤ 1000000) :
    Writes B b l (lineV d (cFor ++ (exV 1 val ++ cOpen)) ++ (stsV (d + 1) thn ++ lineV d cEnd)) w 97 #[.pointer (some ⟨b, 0, none⟩), .agg #[.int .i64 13, .int .i64 (at_ : Nat), .string (mkT name), .pointer tq, .pointer vq, .slice no nn nc, .slice eo en ec, .slice co cn cc], .int .i64 (d : Nat)] := by
  unfold Writes
  have hbw := fresh_alloc w #[.int .i64 13, .int .i64 (at_ : Nat), .string (mkT name), .pointer tq, .pointer vq, .slice no nn nc, .slice eo en ec, .slice co cn cc] 49
  have hblt := h.1.lt

  have HL : Hid (l.length + ((lineV d (cFor ++ (exV 1 val ++ cOpen))).length + ((stsV (d + 1) thn).length + (lineV d cEnd).length)) ≤ 1000000) := Lib.hid (by rw [List.length_append, List.length_append] at hlen; exact hlen)
  have HTH := Lib.hid hTh
  have hd : d ≤ 1000000 := by have := HL.out; simp only [lineV_len] at this; omega
  have hw : IntKind.i64.wrap ((d : Int) + 1) = ((d + 1 : Nat) : Int) := by rw [IntWalk.i64_in _ (by omega)]; omega
  have HB := Lib.hid hB
  have HP := Lib.hid hP
  have HV := Lib.hid hv
  have HB1 := Lib.hid (hbw.mono hB)
  have HSZ : Hid (B ≤ (w.alloc (.cells #[.int .i64 13, .int .i64 (at_ : Nat), .string (mkT name), .pointer tq, .pointer vq, .slice no nn nc, .slice eo en ec, .slice co cn cc] 49)).heap.size) := Lib.hid (Nat.le_trans hB hbw.size)
  have HO1 : Hid (Others b w (w.alloc (.cells #[.int .i64 13, .int .i64 (at_ : Nat), .string (mkT name), .pointer tq, .pointer vq, .slice no nn nc, .slice eo en ec, .slice co cn cc] 49))) := Lib.hid (Others.of_new hbw)
  have HLT : Hid (w.heap.size < (w.alloc (.cells #[.int .i64 13, .int .i64 (at_ : Nat), .string (mkT name), .pointer tq, .pointer vq, .slice no nn nc, .slice eo en ec, .slice co cn cc] 49)).heap.size) := Lib.hid (by rw [alloc_size]; exact Nat.lt_succ_self _)
  have HNE : Hid (w.heap.size ≠ b) := Lib.hid (by omega)
  have HH1 : Hid ((w.alloc (.cells #[.int .i64 13, .int .i64 (at_ : Nat), .string (mkT name), .pointer tq, .pointer vq, .slice no nn nc, .slice eo en ec, .slice co cn cc] 49)).heap[w.heap.size]? = some (Obj.cells #[.int .i64 13, .int .i64 (at_ : Nat), .string (mkT name), .pointer tq, .pointer vq, .slice no nn nc, .slice eo en ec, .slice co cn cc] 49 (0, 0))) := Lib.hid (heap_alloc_new w _)
  have HT := Lib.hid (text_ex val hok (w.alloc (.cells #[.int .i64 13, .int .i64 (at_ : Nat), .string (mkT name), .pointer tq, .pointer vq, .slice no nn nc, .slice eo en ec, .slice co cn cc] 49)) (.pointer vq) (Nat.le_trans hB hbw.size) (hP.below (hbw.mono hB)) (hv.2.1.below (hbw.mono hB)) (by have := HL.out; rw [lineV_len, List.length_append, List.length_append] at this; omega))
  have HF : Hid (∀ V, Below (w.alloc (.cells #[.int .i64 13, .int .i64 (at_ : Nat), .string (mkT name), .pointer tq, .pointer vq, .slice no nn nc, .slice eo en ec, .slice co cn cc] 49)).heap.size (w.alloc (.cells #[.int .i64 13, .int .i64 (at_ : Nat), .string (mkT name), .pointer tq, .pointer vq, .slice no nn nc, .slice eo en ec, .slice co cn cc] 49)) V → PC B b l V) := Lib.hid fun V hV => (h.fresh hbw).fresh hV
  clear h hB hP hv hlen hbw hblt hok hd hTh
  go_enter Tryz.func97, Tryz.ntmps97
  go_wp2_with fail
  refine HT.out.mono ?_
  rintro e w2 ⟨rfl, hb2⟩
  have HB2 := Lib.hid (HB1.out.trans (hb2.mono HSZ.out))
  have HO2 : Hid (Others b w w2) := Lib.hid (HO1.out.trans (Others.of_new hb2))
  have HH2 : Hid (w2.heap[w.heap.size]? = some (Obj.cells #[.int .i64 13, .int .i64 (at_ : Nat), .string (mkT name), .pointer tq, .pointer vq, .slice no nn nc, .slice eo en ec, .slice co cn cc] 49 (0, 0))) := Lib.hid (by rw [hb2.block _ HLT.out]; exact HH1.out)
  have H2 := Lib.hid (HF.out w2 hb2)
  clear hb2
  have HC2 := Lib.hid (line_new B b d _ [mkT cFor, mkT (exV 1 val), mkT cOpen] w2 H2.out (Nat.le_trans HB.out HB2.out.size) (by have := HL.out; rw [catV3]; (try simp only [List.length_append]); omega) (by simp))
  rw [catV3] at HC2
  go_wp2_with fail
  refine HC2.out.mono ?_
  rintro e w3 ⟨rfl, h3, hb3, ho3⟩
  have H3 := Lib.hid h3
  have HB3 := Lib.hid (HB2.out.trans hb3)
  have HO3 := Lib.hid (HO2.out.trans ho3)
  have HH3 := Lib.hid (ho3.heap HNE.out (by decide) HH2.out)
  have d3_5 : w3.cell? ⟨w.heap.size, 5, none⟩ = some (.slice no nn nc) := by rw [Lib.cell_of_heap HH3.out]; rfl
  clear h3 hb3 ho3
  have HC3 := Lib.hid (HTH.out _ w3 (d + 1) no nn nc H3.out (Nat.le_trans HB.out HB3.out.size) (HP.out.below HB3.out) (StV.below HV.out HB3.out).2.2.1 (StV.below HV.out HB3.out).2.2.2.1 (by have := HL.out; simp only [List.length_append]; omega))
  go_wp2_with fail
  refine HC3.out.mono ?_
  rintro e w4 ⟨rfl, h4, hb4, ho4⟩
  have H4 := Lib.hid h4
  have HB4 := Lib.hid (HB3.out.trans hb4)
  have HO4 := Lib.hid (HO3.out.trans ho4)
  have HH4 := Lib.hid (ho4.heap HNE.out (by decide) HH3.out)
  clear h4 hb4 ho4
  have HC4 := Lib.hid (line_new B b d _ [mkT cEnd] w4 H4.out (Nat.le_trans HB.out HB4.out.size) (by have := HL.out; rw [catV1]; (try simp only [List.length_append]); omega) (by simp))
  rw [catV1] at HC4
  go_wp2_with fail
  refine HC4.out.mono ?_
  rintro e w5 ⟨rfl, h5, hb5, ho5⟩
  have H5 := Lib.hid h5
  have HB5 := Lib.hid (HB4.out.trans hb5)
  have HO5 := Lib.hid (HO4.out.trans ho5)
  have HH5 := Lib.hid (ho5.heap HNE.out (by decide) HH4.out)
  clear h5 hb5 ho5
  have HZ : Hid (PC B b (l ++ (lineV d (cFor ++ (exV 1 val ++ cOpen)) ++ (stsV (d + 1) thn ++ lineV d cEnd))) w5) := Lib.hid (by
    have h9 := H5.out
    simp only [List.append_assoc] at h9 ⊢
    exact h9)
  go_wp2_with fail
  try simp only [Exit.inBlock, Exit.then]
  go_end0
  exact ⟨rfl, HZ.out, HB5.out, HO5.out⟩
set_option maxRecDepth 100000 in
set_option maxHeartbeats 12800000 in
theorem choice_if {B b d : Nat} {at_ : Nat} {tq vq no eo co : Option Addr} {nn nc en ec cn cc : Nat} {name : Lx.B} {dst val : Ex} {thn els : Sts} {cases : Cas} (hTh : StsW B b thn) (hok : ExOk val) (h0 : els.len = 0) (l : List UInt8) (w : World) (h : PC B b l w) (hB : B ≤ w.heap.size) (hP : PEnv B w) (hv : StV w (fun k => k < B) (.pointer tq) (.pointer vq) (.slice no nn nc) (.slice eo en ec) (.slice co cn cc) dst val thn els cases) (hlen : l.length + (lineV d (cIf ++ (exV 1 val ++ cOpen)) ++ (stsV (d + 1) thn ++ lineV d cEnd)).length ≤ 1000000) :
    Writes B b l (lineV d (cIf ++ (exV 1 val ++ cOpen)) ++ (stsV (d + 1) thn ++ lineV d cEnd)) w 127 #[.pointer (some ⟨b, 0, none⟩), .agg #[.int .i64 12, .int .i64 (at_ : Nat), .string (mkT name), .pointer tq, .pointer vq, .slice no nn nc, .slice eo en ec, .slice co cn cc], .int .i64 (d : Nat)] := by
  unfold Writes
  have hbw := fresh_alloc w #[.int .i64 12, .int .i64 (at_ : Nat), .string (mkT name), .pointer tq, .pointer vq, .slice no nn nc, .slice eo en ec, .slice co cn cc] 49
  have hblt := h.1.lt

  have HL : Hid (l.length + ((lineV d (cIf ++ (exV 1 val ++ cOpen))).length + ((stsV (d + 1) thn).length + (lineV d cEnd).length)) ≤ 1000000) := Lib.hid (by rw [List.length_append, List.length_append] at hlen; exact hlen)
  have HTH := Lib.hid hTh
  have hen : en = 0 := by rw [← h0]; exact slAt_len hv.2.2.2.2.1
  subst hen
  have hd : d ≤ 1000000 := by have := HL.out; simp only [lineV_len] at this; omega
  have hw : IntKind.i64.wrap ((d : Int) + 1) = ((d + 1 : Nat) : Int) := by rw [IntWalk.i64_in _ (by omega)]; omega
  have HB := Lib.hid hB
  have HP := Lib.hid hP
  have HV := Lib.hid hv
  have HB1 := Lib.hid (hbw.mono hB)
  have HSZ : Hid (B ≤ (w.alloc (.cells #[.int .i64 12, .int .i64 (at_ : Nat), .string (mkT name), .pointer tq, .pointer vq, .slice no nn nc, .slice eo 0 ec, .slice co cn cc] 49)).heap.size) := Lib.hid (Nat.le_trans hB hbw.size)
  have HO1 : Hid (Others b w (w.alloc (.cells #[.int .i64 12, .int .i64 (at_ : Nat), .string (mkT name), .pointer tq, .pointer vq, .slice no nn nc, .slice eo 0 ec, .slice co cn cc] 49))) := Lib.hid (Others.of_new hbw)
  have HLT : Hid (w.heap.size < (w.alloc (.cells #[.int .i64 12, .int .i64 (at_ : Nat), .string (mkT name), .pointer tq, .pointer vq, .slice no nn nc, .slice eo 0 ec, .slice co cn cc] 49)).heap.size) := Lib.hid (by rw [alloc_size]; exact Nat.lt_succ_self _)
  have HNE : Hid (w.heap.size ≠ b) := Lib.hid (by omega)
  have HH1 : Hid ((w.alloc (.cells #[.int .i64 12, .int .i64 (at_ : Nat), .string (mkT name), .pointer tq, .pointer vq, .slice no nn nc, .slice eo 0 ec, .slice co cn cc] 49)).heap[w.heap.size]? = some (Obj.cells #[.int .i64 12, .int .i64 (at_ : Nat), .string (mkT name), .pointer tq, .pointer vq, .slice no nn nc, .slice eo 0 ec, .slice co cn cc] 49 (0, 0))) := Lib.hid (heap_alloc_new w _)
  have HT := Lib.hid (text_ex val hok (w.alloc (.cells #[.int .i64 12, .int .i64 (at_ : Nat), .string (mkT name), .pointer tq, .pointer vq, .slice no nn nc, .slice eo 0 ec, .slice co cn cc] 49)) (.pointer vq) (Nat.le_trans hB hbw.size) (hP.below (hbw.mono hB)) (hv.2.1.below (hbw.mono hB)) (by have := HL.out; rw [lineV_len, List.length_append, List.length_append] at this; omega))
  have HF : Hid (∀ V, Below (w.alloc (.cells #[.int .i64 12, .int .i64 (at_ : Nat), .string (mkT name), .pointer tq, .pointer vq, .slice no nn nc, .slice eo 0 ec, .slice co cn cc] 49)).heap.size (w.alloc (.cells #[.int .i64 12, .int .i64 (at_ : Nat), .string (mkT name), .pointer tq, .pointer vq, .slice no nn nc, .slice eo 0 ec, .slice co cn cc] 49)) V → PC B b l V) := Lib.hid fun V hV => (h.fresh hbw).fresh hV
  clear h hB hP hv hlen hbw hblt hok hd hTh h0
  go_enter Tryz.func127, Tryz.ntmps127
  go_wp2_with fail
  refine HT.out.mono ?_
  rintro e w2 ⟨rfl, hb2⟩
  have HB2 := Lib.hid (HB1.out.trans (hb2.mono HSZ.out))
  have HO2 : Hid (Others b w w2) := Lib.hid (HO1.out.trans (Others.of_new hb2))
  have HH2 : Hid (w2.heap[w.heap.size]? = some (Obj.cells #[.int .i64 12, .int .i64 (at_ : Nat), .string (mkT name), .pointer tq, .pointer vq, .slice no nn nc, .slice eo 0 ec, .slice co cn cc] 49 (0, 0))) := Lib.hid (by rw [hb2.block _ HLT.out]; exact HH1.out)
  have H2 := Lib.hid (HF.out w2 hb2)
  clear hb2
  have HC2 := Lib.hid (line_new B b d _ [mkT cIf, mkT (exV 1 val), mkT cOpen] w2 H2.out (Nat.le_trans HB.out HB2.out.size) (by have := HL.out; rw [catV3]; (try simp only [List.length_append]); omega) (by simp))
  rw [catV3] at HC2
  go_wp2_with fail
  refine HC2.out.mono ?_
  rintro e w3 ⟨rfl, h3, hb3, ho3⟩
  have H3 := Lib.hid h3
  have HB3 := Lib.hid (HB2.out.trans hb3)
  have HO3 := Lib.hid (HO2.out.trans ho3)
  have HH3 := Lib.hid (ho3.heap HNE.out (by decide) HH2.out)
  have d3_5 : w3.cell? ⟨w.heap.size, 5, none⟩ = some (.slice no nn nc) := by rw [Lib.cell_of_heap HH3.out]; rfl
  clear h3 hb3 ho3
  have HC3 := Lib.hid (HTH.out _ w3 (d + 1) no nn nc H3.out (Nat.le_trans HB.out HB3.out.size) (HP.out.below HB3.out) (StV.below HV.out HB3.out).2.2.1 (StV.below HV.out HB3.out).2.2.2.1 (by have := HL.out; simp only [List.length_append]; omega))
  go_wp2_with fail
  refine HC3.out.mono ?_
  rintro e w4 ⟨rfl, h4, hb4, ho4⟩
  have H4 := Lib.hid h4
  have HB4 := Lib.hid (HB3.out.trans hb4)
  have HO4 := Lib.hid (HO3.out.trans ho4)
  have HH4 := Lib.hid (ho4.heap HNE.out (by decide) HH3.out)
  have d4_6 : w4.cell? ⟨w.heap.size, 6, none⟩ = some (.slice eo 0 ec) := by rw [Lib.cell_of_heap HH4.out]; rfl
  clear h4 hb4 ho4
  have HC4 := Lib.hid (line_new B b d _ [mkT cEnd] w4 H4.out (Nat.le_trans HB.out HB4.out.size) (by have := HL.out; rw [catV1]; (try simp only [List.length_append]); omega) (by simp))
  rw [catV1] at HC4
  go_wp2_with fail
  refine HC4.out.mono ?_
  rintro e w5 ⟨rfl, h5, hb5, ho5⟩
  have H5 := Lib.hid h5
  have HB5 := Lib.hid (HB4.out.trans hb5)
  have HO5 := Lib.hid (HO4.out.trans ho5)
  have HH5 := Lib.hid (ho5.heap HNE.out (by decide) HH4.out)
  clear h5 hb5 ho5
  have HZ : Hid (PC B b (l ++ (lineV d (cIf ++ (exV 1 val ++ cOpen)) ++ (stsV (d + 1) thn ++ lineV d cEnd))) w5) := Lib.hid (by
    have h9 := H5.out
    simp only [List.append_assoc] at h9 ⊢
    exact h9)
  go_wp2_with fail
  try simp only [Exit.inBlock, Exit.then]
  go_end0
  exact ⟨rfl, HZ.out, HB5.out, HO5.out⟩
set_option maxRecDepth 100000 in
set_option maxHeartbeats 12800000 in
theorem choice_else {B b d : Nat} {at_ : Nat} {tq vq no eo co : Option Addr} {nn nc en ec cn cc : Nat} {name : Lx.B} {dst val : Ex} {thn els : Sts} {cases : Cas} (hTh : StsW B b thn) (hok : ExOk val) (hEl : StsW B b els) (h0 : els.len ≠ 0) (l : List UInt8) (w : World) (h : PC B b l w) (hB : B ≤ w.heap.size) (hP : PEnv B w) (hv : StV w (fun k => k < B) (.pointer tq) (.pointer vq) (.slice no nn nc) (.slice eo en ec) (.slice co cn cc) dst val thn els cases) (hlen : l.length + (lineV d (cIf ++ (exV 1 val ++ cOpen)) ++ (stsV (d + 1) thn ++ ((lineV d cElse ++ stsV (d + 1) els) ++ lineV d cEnd))).length ≤ 1000000) :
    Writes B b l (lineV d (cIf ++ (exV 1 val ++ cOpen)) ++ (stsV (d + 1) thn ++ ((lineV d cElse ++ stsV (d + 1) els) ++ lineV d cEnd))) w 127 #[.pointer (some ⟨b, 0, none⟩), .agg #[.int .i64 12, .int .i64 (at_ : Nat), .string (mkT name), .pointer tq, .pointer vq, .slice no nn nc, .slice eo en ec, .slice co cn cc], .int .i64 (d : Nat)] := by
  unfold Writes
  have hbw := fresh_alloc w #[.int .i64 12, .int .i64 (at_ : Nat), .string (mkT name), .pointer tq, .pointer vq, .slice no nn nc, .slice eo en ec, .slice co cn cc] 49
  have hblt := h.1.lt

  have HL : Hid (l.length + ((lineV d (cIf ++ (exV 1 val ++ cOpen))).length + ((stsV (d + 1) thn).length + (((lineV d cElse).length + (stsV (d + 1) els).length) + (lineV d cEnd).length))) ≤ 1000000) := Lib.hid (by simp only [List.length_append] at hlen; simpa only [List.length_append] using hlen)
  have HTH := Lib.hid hTh
  have HEL := Lib.hid hEl
  have hen : en = els.len := slAt_len hv.2.2.2.2.1
  have hgt : (0 : Int) < (en : Int) := by omega
  have hd : d ≤ 1000000 := by have := HL.out; simp only [lineV_len] at this; omega
  have hw : IntKind.i64.wrap ((d : Int) + 1) = ((d + 1 : Nat) : Int) := by rw [IntWalk.i64_in _ (by omega)]; omega
  have HB := Lib.hid hB
  have HP := Lib.hid hP
  have HV := Lib.hid hv
  have HB1 := Lib.hid (hbw.mono hB)
  have HSZ : Hid (B ≤ (w.alloc (.cells #[.int .i64 12, .int .i64 (at_ : Nat), .string (mkT name), .pointer tq, .pointer vq, .slice no nn nc, .slice eo en ec, .slice co cn cc] 49)).heap.size) := Lib.hid (Nat.le_trans hB hbw.size)
  have HO1 : Hid (Others b w (w.alloc (.cells #[.int .i64 12, .int .i64 (at_ : Nat), .string (mkT name), .pointer tq, .pointer vq, .slice no nn nc, .slice eo en ec, .slice co cn cc] 49))) := Lib.hid (Others.of_new hbw)
  have HLT : Hid (w.heap.size < (w.alloc (.cells #[.int .i64 12, .int .i64 (at_ : Nat), .string (mkT name), .pointer tq, .pointer vq, .slice no nn nc, .slice eo en ec, .slice co cn cc] 49)).heap.size) := Lib.hid (by rw [alloc_size]; exact Nat.lt_succ_self _)
  have HNE : Hid (w.heap.size ≠ b) := Lib.hid (by omega)
  have HH1 : Hid ((w.alloc (.cells #[.int .i64 12, .int .i64 (at_ : Nat), .string (mkT name), .pointer tq, .pointer vq, .slice no nn nc, .slice eo en ec, .slice co cn cc] 49)).heap[w.heap.size]? = some (Obj.cells #[.int .i64 12, .int .i64 (at_ : Nat), .string (mkT name), .pointer tq, .pointer vq, .slice no nn nc, .slice eo en ec, .slice co cn cc] 49 (0, 0))) := Lib.hid (heap_alloc_new w _)
  have HT := Lib.hid (text_ex val hok (w.alloc (.cells #[.int .i64 12, .int .i64 (at_ : Nat), .string (mkT name), .pointer tq, .pointer vq, .slice no nn nc, .slice eo en ec, .slice co cn cc] 49)) (.pointer vq) (Nat.le_trans hB hbw.size) (hP.below (hbw.mono hB)) (hv.2.1.below (hbw.mono hB)) (by have := HL.out; rw [lineV_len, List.length_append, List.length_append] at this; omega))
  have HF : Hid (∀ V, Below (w.alloc (.cells #[.int .i64 12, .int .i64 (at_ : Nat), .string (mkT name), .pointer tq, .pointer vq, .slice no nn nc, .slice eo en ec, .slice co cn cc] 49)).heap.size (w.alloc (.cells #[.int .i64 12, .int .i64 (at_ : Nat), .string (mkT name), .pointer tq, .pointer vq, .slice no nn nc, .slice eo en ec, .slice co cn cc] 49)) V → PC B b l V) := Lib.hid fun V hV => (h.fresh hbw).fresh hV
  clear h hB hP hv hlen hbw hblt hok hd hTh hEl h0 hen
  go_enter Tryz.func127, Tryz.ntmps127
  go_wp2_with fail
  refine HT.out.mono ?_
  rintro e w2 ⟨rfl, hb2⟩
  have HB2 := Lib.hid (HB1.out.trans (hb2.mono HSZ.out))
  have HO2 : Hid (Others b w w2) := Lib.hid (HO1.out.trans (Others.of_new hb2))
  have HH2 : Hid (w2.heap[w.heap.size]? = some (Obj.cells #[.int .i64 12, .int .i64 (at_ : Nat), .string (mkT name), .pointer tq, .pointer vq, .slice no nn nc, .slice eo en ec, .slice co cn cc] 49 (0, 0))) := Lib.hid (by rw [hb2.block _ HLT.out]; exact HH1.out)
  have H2 := Lib.hid (HF.out w2 hb2)
  clear hb2
  have HC2 := Lib.hid (line_new B b d _ [mkT cIf, mkT (exV 1 val), mkT cOpen] w2 H2.out (Nat.le_trans HB.out HB2.out.size) (by have := HL.out; rw [catV3]; (try simp only [List.length_append]); omega) (by simp))
  rw [catV3] at HC2
  go_wp2_with fail
  refine HC2.out.mono ?_
  rintro e w3 ⟨rfl, h3, hb3, ho3⟩
  have H3 := Lib.hid h3
  have HB3 := Lib.hid (HB2.out.trans hb3)
  have HO3 := Lib.hid (HO2.out.trans ho3)
  have HH3 := Lib.hid (ho3.heap HNE.out (by decide) HH2.out)
  have d3_5 : w3.cell? ⟨w.heap.size, 5, none⟩ = some (.slice no nn nc) := by rw [Lib.cell_of_heap HH3.out]; rfl
  clear h3 hb3 ho3
  have HC3 := Lib.hid (HTH.out _ w3 (d + 1) no nn nc H3.out (Nat.le_trans HB.out HB3.out.size) (HP.out.below HB3.out) (StV.below HV.out HB3.out).2.2.1 (StV.below HV.out HB3.out).2.2.2.1 (by have := HL.out; simp only [List.length_append]; omega))
  go_wp2_with fail
  refine HC3.out.mono ?_
  rintro e w4 ⟨rfl, h4, hb4, ho4⟩
  have H4 := Lib.hid h4
  have HB4 := Lib.hid (HB3.out.trans hb4)
  have HO4 := Lib.hid (HO3.out.trans ho4)
  have HH4 := Lib.hid (ho4.heap HNE.out (by decide) HH3.out)
  have d4_6 : w4.cell? ⟨w.heap.size, 6, none⟩ = some (.slice eo en ec) := by rw [Lib.cell_of_heap HH4.out]; rfl
  clear h4 hb4 ho4
  have HC4 := Lib.hid (line_new B b d _ [mkT cElse] w4 H4.out (Nat.le_trans HB.out HB4.out.size) (by have := HL.out; rw [catV1]; (try simp only [List.length_append]); omega) (by simp))
  rw [catV1] at HC4
  go_wp2_with fail
  refine HC4.out.mono ?_
  rintro e w5 ⟨rfl, h5, hb5, ho5⟩
  have H5 := Lib.hid h5
  have HB5 := Lib.hid (HB4.out.trans hb5)
  have HO5 := Lib.hid (HO4.out.trans ho5)
  have HH5 := Lib.hid (ho5.heap HNE.out (by decide) HH4.out)
  have d5_6 : w5.cell? ⟨w.heap.size, 6, none⟩ = some (.slice eo en ec) := by rw [Lib.cell_of_heap HH5.out]; rfl
  clear h5 hb5 ho5
  have HC5 := Lib.hid (HEL.out _ w5 (d + 1) eo en ec H5.out (Nat.le_trans HB.out HB5.out.size) (HP.out.below HB5.out) (StV.below HV.out HB5.out).2.2.2.2.1 (StV.below HV.out HB5.out).2.2.2.2.2.1 (by have := HL.out; simp only [List.length_append]; omega))
  go_wp2_with fail
  refine HC5.out.mono ?_
  rintro e w6 ⟨rfl, h6, hb6, ho6⟩
  have H6 := Lib.hid h6
  have HB6 := Lib.hid (HB5.out.trans hb6)
  have HO6 := Lib.hid (HO5.out.trans ho6)
  have HH6 := Lib.hid (ho6.heap HNE.out (by decide) HH5.out)
  clear h6 hb6 ho6
  have HC6 := Lib.hid (line_new B b d _ [mkT cEnd] w6 H6.out (Nat.le_trans HB.out HB6.out.size) (by have := HL.out; rw [catV1]; (try simp only [List.length_append]); omega) (by simp))
  rw [catV1] at HC6
  go_wp2_with fail
  refine HC6.out.mono ?_
  rintro e w7 ⟨rfl, h7, hb7, ho7⟩
  have H7 := Lib.hid h7
  have HB7 := Lib.hid (HB6.out.trans hb7)
  have HO7 := Lib.hid (HO6.out.trans ho7)
  have HH7 := Lib.hid (ho7.heap HNE.out (by decide) HH6.out)
  clear h7 hb7 ho7
  have HZ : Hid (PC B b (l ++ (lineV d (cIf ++ (exV 1 val ++ cOpen)) ++ (stsV (d + 1) thn ++ ((lineV d cElse ++ stsV (d + 1) els) ++ lineV d cEnd)))) w7) := Lib.hid (by
    have h9 := H7.out
    simp only [List.append_assoc] at h9 ⊢
    exact h9)
  go_wp2_with fail
  try simp only [Exit.inBlock, Exit.then]
  go_end0
  exact ⟨rfl, HZ.out, HB7.out, HO7.out⟩
set_option maxRecDepth 100000 in
set_option maxHeartbeats 12800000 in
theorem stmt_if {B b d : Nat} {at_ : Nat} {tq vq no eo co : Option Addr} {nn nc en ec cn cc : Nat} {name : Lx.B} {dst val : Ex} {thn els : Sts} {cases : Cas} (hTh : StsW B b thn) (hok : ExOk val) (hEl : StsW B b els) (l : List UInt8) (w : World) (h : PC B b l w) (hB : B ≤ w.heap.size) (hP : PEnv B w) (hv : StV w (fun k => k < B) (.pointer tq) (.pointer vq) (.slice no nn nc) (.slice eo en ec) (.slice co cn cc) dst val thn els cases) (hlen : l.length + (lineV d (cIf ++ (exV 1 val ++ cOpen)) ++ (stsV (d + 1) thn ++ ((if els.len = 0 then [] else lineV d cElse ++ stsV (d + 1) els) ++ lineV d cEnd))).length ≤ 1000000) :
    Writes B b l (lineV d (cIf ++ (exV 1 val ++ cOpen)) ++ (stsV (d + 1) thn ++ ((if els.len = 0 then [] else lineV d cElse ++ stsV (d + 1) els) ++ lineV d cEnd))) w 97 #[.pointer (some ⟨b, 0, none⟩), .agg #[.int .i64 12, .int .i64 (at_ : Nat), .string (mkT name), .pointer tq, .pointer vq, .slice no nn nc, .slice eo en ec, .slice co cn cc], .int .i64 (d : Nat)] := by
  have hb := fresh_alloc w #[.int .i64 12, .int .i64 (at_ : Nat), .string (mkT name), .pointer tq, .pointer vq, .slice no nn nc, .slice eo en ec, .slice co cn cc] 49
  have HG : Hid (Writes B b l (lineV d (cIf ++ (exV 1 val ++ cOpen)) ++ (stsV (d + 1) thn ++ ((if els.len = 0 then [] else lineV d cElse ++ stsV (d + 1) els) ++ lineV d cEnd))) (w.alloc (.cells #[.int .i64 12, .int .i64 (at_ : Nat), .string (mkT name), .pointer tq, .pointer vq, .slice no nn nc, .slice eo en ec, .slice co cn cc] 49)) 127 #[.pointer (some ⟨b, 0, none⟩), .agg #[.int .i64 12, .int .i64 (at_ : Nat), .string (mkT name), .pointer tq, .pointer vq, .slice no nn nc, .slice eo en ec, .slice co cn cc], .int .i64 (d : Nat)]) := Lib.hid (by
    by_cases h0 : els.len = 0
    · rw [if_pos h0, List.nil_append] at hlen ⊢
      exact choice_if hTh hok h0 l (w.alloc (.cells #[.int .i64 12, .int .i64 (at_ : Nat), .string (mkT name), .pointer tq, .pointer vq, .slice no nn nc, .slice eo en ec, .slice co cn cc] 49)) (h.fresh hb) (Nat.le_trans hB hb.size) (hP.below (hb.mono hB)) (StV.below hv (hb.mono hB)) hlen
    · rw [if_neg h0] at hlen ⊢
      exact choice_else hTh hok hEl h0 l (w.alloc (.cells #[.int .i64 12, .int .i64 (at_ : Nat), .string (mkT name), .pointer tq, .pointer vq, .slice no nn nc, .slice eo en ec, .slice co cn cc] 49)) (h.fresh hb) (Nat.le_trans hB hb.size) (hP.below (hb.mono hB)) (StV.below hv (hb.mono hB)) hlen)
  obtain ⟨out, hout⟩ : ∃ out, out = lineV d (cIf ++ (exV 1 val ++ cOpen)) ++ (stsV (d + 1) thn ++ ((if els.len = 0 then [] else lineV d cElse ++ stsV (d + 1) els) ++ lineV d cEnd)) := ⟨_, rfl⟩
  rw [← hout] at HG ⊢
  unfold Writes at HG ⊢
  have HB2 := Lib.hid (hb.mono hB)
  have HO2 : Hid (Others b w (w.alloc (.cells #[.int .i64 12, .int .i64 (at_ : Nat), .string (mkT name), .pointer tq, .pointer vq, .slice no nn nc, .slice eo en ec, .slice co cn cc] 49))) := Lib.hid (Others.of_new hb)
  clear h hB hP hv hlen hb hok hTh hEl hout
  go_enter Tryz.func97, Tryz.ntmps97
  go_wp2_with fail
  refine HG.out.mono ?_
  rintro e w3 ⟨rfl, h3, hb3, ho3⟩
  have H3 := Lib.hid h3
  have HB3 := Lib.hid (HB2.out.trans hb3)
  have HO3 := Lib.hid (HO2.out.trans ho3)
  clear h3 hb3 ho3
  go_wp2_with fail
  try simp only [Exit.inBlock, Exit.then]
  go_end0
  exact ⟨rfl, H3.out, HB3.out, HO3.out⟩
end Go.Proofs.YtgonbmcojjcabaaGreatDoor
