/-
  Texts of one proof, in build order: TreeP7 TreeP8 TreeP9 TreePA TreePB TreePC TreeW5 TreeW6 TreeW7 TreeW8 TreePD TreePE TreePF TreePG
-/
import Derived.Test.YtjejcajnnbilmaaGreatDoorB5
import Derived.Deep.RegionHeld
set_option maxRecDepth 100000
set_option maxHeartbeats 12800000
namespace Go.Proofs.YtjejcajnnbilmaaGreatDoor
open Go.RowKit Lx Tr
variable {w w' : World}
theorem bare_num {B b bk : Nat} {n : Nat} (l : List UInt8) (w : World) (h : PC B b l w) (hB : B <= w.heap.size) (hP : PEnv B w) (c0 : w.cell? ⟨bk, 0, none⟩ = some (.int .i64 1)) (c2 : w.cell? ⟨bk, 2, none⟩ = some (.int .i64 (n : Nat))) (hn : n <= 9223372036854775807) (hlen : l.length + (sOfB n).length <= 1000000) :
  Writes B b l (sOfB n) w 105 #[.pointer (some ⟨b, 0, none⟩), .pointer (some ⟨bk, 0, none⟩)] := by
 unfold Writes
 have HC := zz (itoaP_any n hn w hP.pow)
 have H := zz h
 have HB := zz hB
 have HL := zz hlen
 clear h hB hP hn hlen
 go_enter Tryz.func105, Tryz.ntmps105
 go_wp2_with fail
 refine HC.out.mono ?_
 rintro e w1 ⟨rfl, hb1⟩
 have HPUT := zz (put_new B b l [mkT (sOfB n)] w1 (H.out.fresh hb1) (Nat.le_trans HB.out hb1.size) (by have := HL.out; show l.length + (sOfB n ++ []).length <= _; rw [List.append_nil]; exact this) (by simp))
 have HB1 := zz (hb1.mono HB.out)
 have HO1 : Hid (Others b w w1) := zz (Others.of_new hb1)
 clear hb1
 go_wp2_with fail
 refine HPUT.out.mono ?_
 rintro e w2 ⟨rfl, h2, hb2, ho2⟩
 have h2' : PC B b (l ++ sOfB n) w2 := by
  have e : l ++ sOfB n = l ++ catV [mkT (sOfB n)] := by show _ = l ++ (sOfB n ++ []); rw [List.append_nil]
  rw [e]; exact h2
 have H2 := zz h2'
 have HB2 := zz (HB1.out.trans hb2)
 have HO2 := zz (HO1.out.trans ho2)
 clear h2 h2' hb2 ho2
 go_wp2_with fail
 try simp only [Exit.inBlock, Exit.then]
 go_end0
 exact ⟨rfl, H2.out, HB2.out, HO2.out⟩
theorem bare_bool {B b bk : Nat} {n : Nat} (l : List UInt8) (w : World) (h : PC B b l w) (hB : B <= w.heap.size) (c0 : w.cell? ⟨bk, 0, none⟩ = some (.int .i64 2)) (c2 : w.cell? ⟨bk, 2, none⟩ = some (.int .i64 (n : Nat))) (hlen : l.length + (if n = 0 then tFalse else tTrue).length <= 1000000) :
  Writes B b l (if n = 0 then tFalse else tTrue) w 105 #[.pointer (some ⟨b, 0, none⟩), .pointer (some ⟨bk, 0, none⟩)] := by
 unfold Writes
 obtain ⟨t, ht⟩ : ∃ t, t = (if n = 0 then tFalse else tTrue) := ⟨_, rfl⟩
 rw [<- ht] at hlen ⊢
 have HC : Hid (∀ W, Calls Tryz.prog 135 #[.bool !((n : Int) == 0)] W fun e w' => e = .returned (.string (mkT t)) /\ W = w') := zz fun W => by
  have := boolB_any (!((n : Int) == 0)) W
  have e : (if (!((n : Int) == 0)) then tTrue else tFalse) = t := by
   rw [ht]
   by_cases h0 : n = 0
   ·subst h0; rfl
   ·rw [if_neg h0, if_pos]
    simp; omega
  rw [e] at this
  exact this
 have H := zz (put_new B b l [mkT t] w h hB (by show l.length + (t ++ []).length <= _; rw [List.append_nil]; exact hlen) (by simp))
 clear h hB hlen ht
 go_enter Tryz.func105, Tryz.ntmps105
 go_wp2_with fail
 refine (HC.out _).mono ?_
 rintro e w1 ⟨rfl, rfl⟩
 go_wp2_with fail
 refine H.out.mono ?_
 rintro e w2 ⟨rfl, h2, hb2, ho2⟩
 have h2' : PC B b (l ++ t) w2 := by
  have e : l ++ t = l ++ catV [mkT t] := by show _ = l ++ (t ++ []); rw [List.append_nil]
  rw [e]; exact h2
 have H2 := zz h2'
 have HB2 := zz hb2
 have HO2 := zz ho2
 clear h2 h2' hb2 ho2
 go_wp2_with fail
 try simp only [Exit.inBlock, Exit.then]
 go_end0
 exact ⟨rfl, H2.out, HB2.out, HO2.out⟩
theorem bare_nil {B b bk : Nat}  (l : List UInt8) (w : World) (h : PC B b l w) (hB : B <= w.heap.size) (c0 : w.cell? ⟨bk, 0, none⟩ = some (.int .i64 3)) (hlen : l.length + (tNil).length <= 1000000) :
  Writes B b l (tNil) w 105 #[.pointer (some ⟨b, 0, none⟩), .pointer (some ⟨bk, 0, none⟩)] := by
 unfold Writes
 have H := zz (put_new B b l [mkT tNil] w h hB (by show l.length + (tNil ++ []).length <= _; rw [List.append_nil]; exact hlen) (by simp))
 clear h hB hlen
 go_enter Tryz.func105, Tryz.ntmps105
 go_wp2_with fail
 refine H.out.mono ?_
 rintro e w2 ⟨rfl, h2, hb2, ho2⟩
 have h2' : PC B b (l ++ tNil) w2 := by
  have e : l ++ tNil = l ++ catV [mkT tNil] := by show _ = l ++ (tNil ++ []); rw [List.append_nil]
  rw [e]; exact h2
 have H2 := zz h2'
 have HB2 := zz hb2
 have HO2 := zz ho2
 clear h2 h2' hb2 ho2
 go_wp2_with fail
 try simp only [Exit.inBlock, Exit.then]
 go_end0
 exact ⟨rfl, H2.out, HB2.out, HO2.out⟩
theorem bare_name {B b bk : Nat} {name : Lx.B} (l : List UInt8) (w : World) (h : PC B b l w) (hB : B <= w.heap.size) (c0 : w.cell? ⟨bk, 0, none⟩ = some (.int .i64 4)) (c3 : w.cell? ⟨bk, 3, none⟩ = some (.string (mkT name))) (hlen : l.length + (name).length <= 1000000) :
  Writes B b l (name) w 105 #[.pointer (some ⟨b, 0, none⟩), .pointer (some ⟨bk, 0, none⟩)] := by
 unfold Writes
 have H := zz (put_new B b l [mkT name] w h hB (by show l.length + (name ++ []).length <= _; rw [List.append_nil]; exact hlen) (by simp))
 clear h hB hlen
 go_enter Tryz.func105, Tryz.ntmps105
 go_wp2_with fail
 refine H.out.mono ?_
 rintro e w2 ⟨rfl, h2, hb2, ho2⟩
 have h2' : PC B b (l ++ name) w2 := by
  have e : l ++ name = l ++ catV [mkT name] := by show _ = l ++ (name ++ []); rw [List.append_nil]
  rw [e]; exact h2
 have H2 := zz h2'
 have HB2 := zz hb2
 have HO2 := zz ho2
 clear h2 h2' hb2 ho2
 go_wp2_with fail
 try simp only [Exit.inBlock, Exit.then]
 go_end0
 exact ⟨rfl, H2.out, HB2.out, HO2.out⟩
theorem bare_un {B b bk : Nat} {op : Nat} {x : Ex} {lv : Value} (l : List UInt8) (w : World) (h : PC B b l w) (hB : B <= w.heap.size) (hP : PEnv B w) (c0 : w.cell? ⟨bk, 0, none⟩ = some (.int .i64 6)) (c4 : w.cell? ⟨bk, 4, none⟩ = some (.int .i64 (op : Nat))) (c5 : w.cell? ⟨bk, 5, none⟩ = some lv) (hx : ExIn w (fun k => k < B) lv x) (hE : PExprC B b x) (hbk : bk < B) (hlen : l.length + (signL op ++ exV 6 x).length <= 1000000) :
  Writes B b l (signL op ++ exV 6 x) w 105 #[.pointer (some ⟨b, 0, none⟩), .pointer (some ⟨bk, 0, none⟩)] := by
 unfold Writes
 rw [List.length_append] at hlen
 have HL : Hid (l.length + (List.length (signL op) + (exV 6 x).length) <= 1000000) := zz hlen
 have HPUT := zz (put_new B b l [mkT (signL op)] w h hB (by have := HL.out; show l.length + (signL op ++ []).length <= _; rw [List.append_nil]; omega) (by simp))
 have HB := zz hB
 have HP := zz hP
 have HX := zz hx
 have HE := zz hE
 have HC5 : Hid (∀ W', Below B w W' -> W'.cell? ⟨bk, 5, none⟩ = some lv) := zz fun W' hb => by rw [hb.cell (p := ⟨bk, 5, none⟩) hbk]; exact c5
 have HC0 : Hid (∀ W', Below B w W' -> W'.cell? ⟨bk, 0, none⟩ = some (.int .i64 6)) := zz fun W' hb => by rw [hb.cell (p := ⟨bk, 0, none⟩) hbk]; exact c0
 have HS : Hid (Calls Tryz.prog 40 #[.int .i64 (op : Nat)] w fun e w' => e = .returned (.string (mkT (signL op))) /\ w = w') := zz (by have := sign_any (op : Int) w hP.signs; rw [signV_nat] at this; exact this)
 clear h hB hP hx hE hlen hbk
 go_enter Tryz.func105, Tryz.ntmps105
 go_wp2_with fail
 refine HS.out.mono ?_
 rintro e w1 ⟨rfl, rfl⟩
 go_wp2_with fail
 refine HPUT.out.mono ?_
 rintro e w2 ⟨rfl, h2, hb2, ho2⟩
 have h2' : PC B b (l ++ signL op) w2 := by
  have e : l ++ signL op = l ++ catV [mkT (signL op)] := by show _ = l ++ (signL op ++ []); rw [List.append_nil]
  rw [e]; exact h2
 have d5 := HC5.out w2 hb2
 have HEX := zz (HE.out 6 _ w2 lv h2' (Nat.le_trans HB.out hb2.size) (HP.out.below hb2) (HX.out.below hb2) (by have := HL.out; rw [List.length_append]; omega))
 have HB2 := zz hb2
 have HO2 := zz ho2
 clear h2 h2' hb2 ho2 c5
 go_wp2_with fail
 refine HEX.out.mono ?_
 rintro e w3 ⟨rfl, h3, hb3, ho3⟩
 have H3 : Hid (PC B b (l ++ (signL op ++ exV 6 x)) w3) := zz (by rw [<- List.append_assoc]; exact h3)
 have HB3 := zz (HB2.out.trans hb3)
 have HO3 := zz (HO2.out.trans ho3)
 clear h3 hb3 ho3
 go_wp2_with fail
 try simp only [Exit.inBlock, Exit.then]
 go_end0
 exact ⟨rfl, H3.out, HB3.out, HO3.out⟩
theorem bare_recv {B b bk : Nat} {x : Ex} {lv : Value} (l : List UInt8) (w : World) (h : PC B b l w) (hB : B <= w.heap.size) (hP : PEnv B w) (c0 : w.cell? ⟨bk, 0, none⟩ = some (.int .i64 10)) (c5 : w.cell? ⟨bk, 5, none⟩ = some lv) (hx : ExIn w (fun k => k < B) lv x) (hE : PExprC B b x) (hbk : bk < B) (hlen : l.length + (tArrow ++ exV 6 x).length <= 1000000) :
  Writes B b l (tArrow ++ exV 6 x) w 105 #[.pointer (some ⟨b, 0, none⟩), .pointer (some ⟨bk, 0, none⟩)] := by
 unfold Writes
 rw [List.length_append] at hlen
 have HL : Hid (l.length + (List.length (tArrow) + (exV 6 x).length) <= 1000000) := zz hlen
 have HPUT := zz (put_new B b l [mkT tArrow] w h hB (by have := HL.out; show l.length + (tArrow ++ []).length <= _; rw [List.append_nil]; omega) (by simp))
 have HB := zz hB
 have HP := zz hP
 have HX := zz hx
 have HE := zz hE
 have HC5 : Hid (∀ W', Below B w W' -> W'.cell? ⟨bk, 5, none⟩ = some lv) := zz fun W' hb => by rw [hb.cell (p := ⟨bk, 5, none⟩) hbk]; exact c5
 have HC0 : Hid (∀ W', Below B w W' -> W'.cell? ⟨bk, 0, none⟩ = some (.int .i64 10)) := zz fun W' hb => by rw [hb.cell (p := ⟨bk, 0, none⟩) hbk]; exact c0
 clear h hB hP hx hE hlen hbk
 go_enter Tryz.func105, Tryz.ntmps105
 go_wp2_with fail
 refine HPUT.out.mono ?_
 rintro e w2 ⟨rfl, h2, hb2, ho2⟩
 have h2' : PC B b (l ++ tArrow) w2 := by
  have e : l ++ tArrow = l ++ catV [mkT tArrow] := by show _ = l ++ (tArrow ++ []); rw [List.append_nil]
  rw [e]; exact h2
 have d5 := HC5.out w2 hb2
 have HEX := zz (HE.out 6 _ w2 lv h2' (Nat.le_trans HB.out hb2.size) (HP.out.below hb2) (HX.out.below hb2) (by have := HL.out; rw [List.length_append]; omega))
 have HB2 := zz hb2
 have HO2 := zz ho2
 clear h2 h2' hb2 ho2 c5
 go_wp2_with fail
 refine HEX.out.mono ?_
 rintro e w3 ⟨rfl, h3, hb3, ho3⟩
 have H3 : Hid (PC B b (l ++ (tArrow ++ exV 6 x)) w3) := zz (by rw [<- List.append_assoc]; exact h3)
 have HB3 := zz (HB2.out.trans hb3)
 have HO3 := zz (HO2.out.trans ho3)
 clear h3 hb3 ho3
 go_wp2_with fail
 try simp only [Exit.inBlock, Exit.then]
 go_end0
 exact ⟨rfl, H3.out, HB3.out, HO3.out⟩
theorem bare_make {B b bk : Nat} {x : Ex} {q : Option Addr} (l : List UInt8) (w : World) (h : PC B b l w) (hB : B <= w.heap.size) (hP : PEnv B w) (c0 : w.cell? ⟨bk, 0, none⟩ = some (.int .i64 8)) (c5 : w.cell? ⟨bk, 5, none⟩ = some (.pointer q)) (hx : ExIn w (fun k => k < B) (.pointer q) x) (hE : PExprC B b x) (hlen : l.length + (tMake ++ ([40] ++ (exV 1 x ++ [41]))).length <= 1000000) :
    Writes B b l (tMake ++ ([40] ++ (exV 1 x ++ [41]))) w 105 #[.pointer (some ⟨b, 0, none⟩), .pointer (some ⟨bk, 0, none⟩)] := by
  unfold Writes
  have hb : Below w.heap.size w (w.alloc (.cells #[.pointer q] 46)) := ((Keeps.refl (fun _ => False) w).alloc _).below (Nat.le_refl _) (fun _ _ e => e.elim)
  have hcw : (w.alloc (.cells #[.pointer q] 46)).heap[w.heap.size]? = some (.cells #[.pointer q] 46 (0, 0)) := heap_alloc_new w _
  have hblt := h.1.lt
  have H := zz (pcall_any (B := B) (b := b) tMake [x] (fun y hy => by cases hy with | head => exact hE | tail _ h => cases h) l (w.alloc (.cells #[.pointer q] 46)) (.slice (some ⟨w.heap.size, 0, none⟩) 1 1) (h.fresh hb) (Nat.le_trans hB hb.size) (hP.below (hb.mono hB))
    (Or.inr ⟨w.heap.size, 1, rfl, fun W' _ ho i => by
        rw [Lib.cell_of_heap (ho w.heap.size _ _ _ (by omega) (by decide) hcw), Lib.cell_of_heap hcw], fun i y hy => by
        cases i with
        | zero => exact ⟨.pointer q, by rw [Lib.cell_of_heap hcw]; rfl, by cases hy; exact hx.below (hb.mono hB)⟩
        | succ i => simp at hy⟩)
    (by show l.length + (tMake ++ ([40] ++ ((exV 1 x ++ []) ++ [41]))).length <= _; rw [List.append_nil]; exact hlen))
  have HBW := zz (hb.mono hB)
  have HOW : Hid (Others b w (w.alloc (.cells #[.pointer q] 46))) := zz (Others.of_new hb)
  clear h hB hP hx hE hlen hb hcw hblt
  go_enter Tryz.func105, Tryz.ntmps105
  go_wp2_with fail
  refine H.out.mono ?_
  rintro e w2 ⟨rfl, h2, hb2, ho2⟩
  have H2 : Hid (PC B b (l ++ (tMake ++ ([40] ++ (exV 1 x ++ [41])))) w2) := zz (by
    have e : tMake ++ ([40] ++ (exV 1 x ++ [41])) = tMake ++ ([40] ++ (argL true [x] ++ [41])) := by show _ = tMake ++ ([40] ++ ((exV 1 x ++ []) ++ [41])); rw [List.append_nil]
    rw [e]; exact h2)
  have HB2 := zz (HBW.out.trans hb2)
  have HO2 := zz (HOW.out.trans ho2)
  clear h2 hb2 ho2
  go_wp2_with fail
  try simp only [Exit.inBlock, Exit.then]
  go_end0
  exact ⟨rfl, H2.out, HB2.out, HO2.out⟩
theorem bare_len {B b bk : Nat} {x : Ex} {q : Option Addr} (l : List UInt8) (w : World) (h : PC B b l w) (hB : B <= w.heap.size) (hP : PEnv B w) (c0 : w.cell? ⟨bk, 0, none⟩ = some (.int .i64 9)) (c5 : w.cell? ⟨bk, 5, none⟩ = some (.pointer q)) (hx : ExIn w (fun k => k < B) (.pointer q) x) (hE : PExprC B b x) (hlen : l.length + (tLen ++ ([40] ++ (exV 1 x ++ [41]))).length <= 1000000) :
    Writes B b l (tLen ++ ([40] ++ (exV 1 x ++ [41]))) w 105 #[.pointer (some ⟨b, 0, none⟩), .pointer (some ⟨bk, 0, none⟩)] := by
  unfold Writes
  have hb : Below w.heap.size w (w.alloc (.cells #[.pointer q] 46)) := ((Keeps.refl (fun _ => False) w).alloc _).below (Nat.le_refl _) (fun _ _ e => e.elim)
  have hcw : (w.alloc (.cells #[.pointer q] 46)).heap[w.heap.size]? = some (.cells #[.pointer q] 46 (0, 0)) := heap_alloc_new w _
  have hblt := h.1.lt
  have H := zz (pcall_any (B := B) (b := b) tLen [x] (fun y hy => by cases hy with | head => exact hE | tail _ h => cases h) l (w.alloc (.cells #[.pointer q] 46)) (.slice (some ⟨w.heap.size, 0, none⟩) 1 1) (h.fresh hb) (Nat.le_trans hB hb.size) (hP.below (hb.mono hB))
    (Or.inr ⟨w.heap.size, 1, rfl, fun W' _ ho i => by
        rw [Lib.cell_of_heap (ho w.heap.size _ _ _ (by omega) (by decide) hcw), Lib.cell_of_heap hcw], fun i y hy => by
        cases i with
        | zero => exact ⟨.pointer q, by rw [Lib.cell_of_heap hcw]; rfl, by cases hy; exact hx.below (hb.mono hB)⟩
        | succ i => simp at hy⟩)
    (by show l.length + (tLen ++ ([40] ++ ((exV 1 x ++ []) ++ [41]))).length <= _; rw [List.append_nil]; exact hlen))
  have HBW := zz (hb.mono hB)
  have HOW : Hid (Others b w (w.alloc (.cells #[.pointer q] 46))) := zz (Others.of_new hb)
  clear h hB hP hx hE hlen hb hcw hblt
  go_enter Tryz.func105, Tryz.ntmps105
  go_wp2_with fail
  refine H.out.mono ?_
  rintro e w2 ⟨rfl, h2, hb2, ho2⟩
  have H2 : Hid (PC B b (l ++ (tLen ++ ([40] ++ (exV 1 x ++ [41])))) w2) := zz (by
    have e : tLen ++ ([40] ++ (exV 1 x ++ [41])) = tLen ++ ([40] ++ (argL true [x] ++ [41])) := by show _ = tLen ++ ([40] ++ ((exV 1 x ++ []) ++ [41])); rw [List.append_nil]
    rw [e]; exact h2)
  have HB2 := zz (HBW.out.trans hb2)
  have HO2 := zz (HOW.out.trans ho2)
  clear h2 hb2 ho2
  go_wp2_with fail
  try simp only [Exit.inBlock, Exit.then]
  go_end0
  exact ⟨rfl, H2.out, HB2.out, HO2.out⟩
theorem ArgsAt.drew {B b : Nat} {av : Value} {l : List Ex} (h : ArgsAt B b w av l) : ArgsAt B b w.drew av l := by
 rcases h with h | ⟨g, cap, e, h1, h2⟩
 ·exact Or.inl h
 ·exact Or.inr ⟨g, cap, e, fun W' hb ho i => h1 W' (Below.trans (Below.drew (Below.refl B w)) hb) (Others.trans (Others.of_new (Below.drew (Below.refl _ _))) ho) i, fun i x hi => by
   obtain ⟨v, a1, a2⟩ := h2 i x hi
   exact ⟨v, a1, a2.below (Below.drew (Below.refl B w))⟩⟩
theorem bare_bin {B b bk op : Nat} {x y : Ex} {q p : Option Addr} (l : List UInt8) (w : World) (h : PC B b l w) (hB : B <= w.heap.size) (hP : PEnv B w) (c0 : w.cell? ⟨bk, 0, none⟩ = some (.int .i64 5)) (c4 : w.cell? ⟨bk, 4, none⟩ = some (.int .i64 (op : Nat))) (c5 : w.cell? ⟨bk, 5, none⟩ = some (.pointer q)) (c6 : w.cell? ⟨bk, 6, none⟩ = some (.pointer p)) (hbk : bk < B)
  (hx : ExIn w (fun k => k < B) (.pointer q) x) (hy : ExIn w (fun k => k < B) (.pointer p) y) (hE : PExprC B b x) (hF : PExprC B b y) (hlen : l.length + (exV (levV op) x ++ ([32] ++ (sgV op ++ ([32] ++ exV (levV op + 1) y)))).length <= 1000000) :
  Writes B b l (exV (levV op) x ++ ([32] ++ (sgV op ++ ([32] ++ exV (levV op + 1) y)))) w 105 #[.pointer (some ⟨b, 0, none⟩), .pointer (some ⟨bk, 0, none⟩)] := by
 unfold Writes
 simp only [List.length_append] at hlen
 have HL : Hid (l.length + ((exV (levV op) x).length + (1 + (List.length (sgV op) + (1 + (exV (levV op + 1) y).length)))) <= 1000000) := zz hlen
 have HC : Hid (∀ W', Below B w W' -> W'.cell? ⟨bk, 4, none⟩ = some (.int .i64 (op : Nat)) /\ W'.cell? ⟨bk, 6, none⟩ = some (.pointer p)) := zz fun W' hb => ⟨by rw [hb.cell (p := ⟨bk, 4, none⟩) hbk]; exact c4, by rw [hb.cell (p := ⟨bk, 6, none⟩) hbk]; exact c6⟩
 have hbd : Below B w w.drew := Below.drew (Below.refl B w)
 have HC5 : Hid (∀ W', Below B w W' -> W'.cell? ⟨bk, 5, none⟩ = some (.pointer q)) := zz fun W' hb => by rw [hb.cell (p := ⟨bk, 5, none⟩) hbk]; exact c5
 have HLV : Hid (∀ W, Calls Tryz.prog 104 #[.int .i64 (op : Nat)] W fun e w' => e = .returned (.int .i64 (levV op : Nat)) /\ W = w') := zz fun W => level_any op W
 have HEX := zz (hE (levV op) l w.drew _ (h.fresh (Below.drew (Below.refl _ _))) hB (hP.below hbd) (hx.below hbd) (by have := HL.out; omega))
 have HB := zz hB
 have HP := zz hP
 have HY := zz hy
 have HF := zz hF
 have HBD := zz hbd
 clear h hB hP hx hy hE hF hlen hbk hbd
 go_enter Tryz.func105, Tryz.ntmps105
 go_wp2_with fail
 refine wp_region_held_drew (S := (fun W' : World => W'.cell? ⟨bk, 4, none⟩ = some (.int .i64 (op : Nat)) /\ W'.cell? ⟨bk, 5, none⟩ = some (.pointer q))) (by kernel_rfl) ⟨by simp only [World.cell?_drew]; assumption, by simp only [World.cell?_drew]; assumption⟩ (fun hHeld => ?_)
 refine tk 0 45 (.pointer (some ⟨b, 0, none⟩)) rfl (.inl ⟨by rfl, ?_⟩) hHeld ?_
 ·intro W9 hSW; (try dsimp only at hSW); go_simp
 try simp only [Act.put, List.setIfInBounds_toArray, List.set_cons_zero, List.set_cons_succ]
 refine tk 1 46 (.pointer (some ⟨bk, 0, none⟩)) rfl (.inl ⟨by rfl, ?_⟩) hHeld ?_
 ·intro W9 hSW; (try dsimp only at hSW); go_simp
 try simp only [Act.put, List.setIfInBounds_toArray, List.set_cons_zero, List.set_cons_succ]
 refine tk 2 47 (.pointer (some ⟨bk, 0, none⟩)) rfl (.inl ⟨by rfl, ?_⟩) hHeld ?_
 ·intro W9 hSW; (try dsimp only at hSW); go_simp
 try simp only [Act.put, List.setIfInBounds_toArray, List.set_cons_zero, List.set_cons_succ]
 refine tk 3 48 (.pointer (some ⟨bk, 5, none⟩)) rfl (.inl ⟨by rfl, ?_⟩) hHeld ?_
 ·intro W9 hSW; (try dsimp only at hSW); go_simp
 try simp only [Act.put, List.setIfInBounds_toArray, List.set_cons_zero, List.set_cons_succ]
 refine tk 4 49 (.pointer q) rfl (.inl ⟨by rfl, ?_⟩) hHeld ?_
 ·intro W9 hSW; (try dsimp only at hSW); go_simp
 try simp only [Act.put, List.setIfInBounds_toArray, List.set_cons_zero, List.set_cons_succ]
 refine tk 5 50 (.pointer (some ⟨bk, 0, none⟩)) rfl (.inl ⟨by rfl, ?_⟩) hHeld ?_
 ·intro W9 hSW; (try dsimp only at hSW); go_simp
 try simp only [Act.put, List.setIfInBounds_toArray, List.set_cons_zero, List.set_cons_succ]
 refine tk 6 51 (.pointer (some ⟨bk, 0, none⟩)) rfl (.inl ⟨by rfl, ?_⟩) hHeld ?_
 ·intro W9 hSW; (try dsimp only at hSW); go_simp
 try simp only [Act.put, List.setIfInBounds_toArray, List.set_cons_zero, List.set_cons_succ]
 refine tk 7 52 (.pointer (some ⟨bk, 4, none⟩)) rfl (.inl ⟨by rfl, ?_⟩) hHeld ?_
 ·intro W9 hSW; (try dsimp only at hSW); go_simp
 try simp only [Act.put, List.setIfInBounds_toArray, List.set_cons_zero, List.set_cons_succ]
 refine tk 8 53 (.int .i64 (op : Nat)) rfl (.inl ⟨by rfl, ?_⟩) hHeld ?_
 ·intro W9 hSW; (try dsimp only at hSW); go_simp
 try simp only [Act.put, List.setIfInBounds_toArray, List.set_cons_zero, List.set_cons_succ]
 refine wpAnyH_ready (rs := [9]) (by kernel_rfl) (by simp) ?_
 refine AllReadyH.cons (o := { dst := some 54, op := _, type := _, pos := _, after := _, guard := _ }) rfl (fun K hK => ?_) AllReadyH.nil
 go_simp
 go_at_call 104
 refine (HLV.out _).mono ?_
 rintro e w1 ⟨rfl, rfl⟩
 refine hK.out _ _ hHeld (fun hHeld => ?_)
 clear hK K
 refine wpAnyH_ready (rs := [10]) (by kernel_rfl) (by simp) ?_
 refine AllReadyH.cons (o := { dst := some 55, op := _, type := _, pos := _, after := _, guard := _ }) rfl (fun K hK => ?_) AllReadyH.nil
 go_simp
 go_at_call 73
 refine HEX.out.mono ?_
 rintro e w2 ⟨rfl, h2, hb2, ho2⟩
 have HB2 := zz (HBD.out.trans hb2)
 have HO2 : Hid (Others b w w2) := zz ((Others.of_new (Below.drew (Below.refl _ _))).trans ho2)
 have H2 := zz h2
 have d4 := (HC.out w2 HB2.out).1
 have d6 := (HC.out w2 HB2.out).2
 have d5 : w2.cell? ⟨bk, 5, none⟩ = some (.pointer q) := HC5.out w2 HB2.out
 clear h2 hb2 ho2
 refine hK.out _ _ ⟨d4, d5⟩ (fun hHeld => ?_)
 clear hK K
 refine wpAnyH_done (by kernel_rfl) ?_ _
 have HSG := zz (tsign_any op w2 (HP.out.below HB2.out).signs)
 have HPUT := zz (put_new B b _ [⟨#[32]⟩, mkT (sgV op), ⟨#[32]⟩] w2 H2.out (Nat.le_trans HB.out HB2.out.size) (by have := HL.out; rw [List.length_append]; show l.length + _ + ([32] ++ (sgV op ++ ([32] ++ []))).length <= _; simp only [List.length_append, List.length_singleton, List.length_nil]; omega) (by simp))
 clear c4 c5 c6
 go_wp2_with fail
 refine HSG.out.mono ?_
 rintro e w3 ⟨rfl, rfl⟩
 go_wp2_with fail
 refine HPUT.out.mono ?_
 rintro e w4 ⟨rfl, h4, hb4, ho4⟩
 have HB4 := zz (HB2.out.trans hb4)
 have HO4 := zz (HO2.out.trans ho4)
 have hbd : Below B w w4.drew := HB4.out.trans (Below.drew (Below.refl B w4))
 have hcat : catV [⟨#[32]⟩, mkT (sgV op), ⟨#[32]⟩] = [32] ++ (sgV op ++ ([32] ++ [])) := rfl
 have HEY := zz (HF.out (levV op + 1) _ w4.drew _ (h4.fresh (Below.drew (Below.refl _ _))) (Nat.le_trans HB.out HB4.out.size) (HP.out.below hbd) (HY.out.below hbd) (by have := HL.out; rw [hcat]; simp only [List.length_append, List.length_singleton, List.length_nil]; omega))
 have d6 := (HC.out w4 HB4.out).2
 have d4 := (HC.out w4 HB4.out).1
 have HBD2 := zz hbd
 have hw : IntKind.i64.wrap ((levV op : Nat) + 1 : Int) = ((levV op + 1 : Nat) : Int) := by
  rw [IntWalk.i64_in _ (by have : levV op <= 5 := (by unfold levV; (repeat' split) <;> omega); omega)]; omega
 clear h4 hb4 ho4 hbd hcat
 go_wp2_with fail
 refine wp_region_held_drew (S := (fun W' : World => W'.cell? ⟨bk, 4, none⟩ = some (.int .i64 (op : Nat)) /\ W'.cell? ⟨bk, 6, none⟩ = some (.pointer p))) (by kernel_rfl) ⟨by simp only [World.cell?_drew]; assumption, by simp only [World.cell?_drew]; assumption⟩ (fun hHeld => ?_)
 refine tk 0 64 (.pointer (some ⟨b, 0, none⟩)) rfl (.inl ⟨by rfl, ?_⟩) hHeld ?_
 ·intro W9 hSW; (try dsimp only at hSW); go_simp
 try simp only [Act.put, List.setIfInBounds_toArray, List.set_cons_zero, List.set_cons_succ]
 refine tk 1 65 (.pointer (some ⟨bk, 0, none⟩)) rfl (.inl ⟨by rfl, ?_⟩) hHeld ?_
 ·intro W9 hSW; (try dsimp only at hSW); go_simp
 try simp only [Act.put, List.setIfInBounds_toArray, List.set_cons_zero, List.set_cons_succ]
 refine tk 2 66 (.pointer (some ⟨bk, 0, none⟩)) rfl (.inl ⟨by rfl, ?_⟩) hHeld ?_
 ·intro W9 hSW; (try dsimp only at hSW); go_simp
 try simp only [Act.put, List.setIfInBounds_toArray, List.set_cons_zero, List.set_cons_succ]
 refine tk 3 67 (.pointer (some ⟨bk, 6, none⟩)) rfl (.inl ⟨by rfl, ?_⟩) hHeld ?_
 ·intro W9 hSW; (try dsimp only at hSW); go_simp
 try simp only [Act.put, List.setIfInBounds_toArray, List.set_cons_zero, List.set_cons_succ]
 refine tk 4 68 (.pointer p) rfl (.inl ⟨by rfl, ?_⟩) hHeld ?_
 ·intro W9 hSW; (try dsimp only at hSW); go_simp
 try simp only [Act.put, List.setIfInBounds_toArray, List.set_cons_zero, List.set_cons_succ]
 refine tk 5 69 (.pointer (some ⟨bk, 0, none⟩)) rfl (.inl ⟨by rfl, ?_⟩) hHeld ?_
 ·intro W9 hSW; (try dsimp only at hSW); go_simp
 try simp only [Act.put, List.setIfInBounds_toArray, List.set_cons_zero, List.set_cons_succ]
 refine tk 6 70 (.pointer (some ⟨bk, 0, none⟩)) rfl (.inl ⟨by rfl, ?_⟩) hHeld ?_
 ·intro W9 hSW; (try dsimp only at hSW); go_simp
 try simp only [Act.put, List.setIfInBounds_toArray, List.set_cons_zero, List.set_cons_succ]
 refine tk 7 71 (.pointer (some ⟨bk, 4, none⟩)) rfl (.inl ⟨by rfl, ?_⟩) hHeld ?_
 ·intro W9 hSW; (try dsimp only at hSW); go_simp
 try simp only [Act.put, List.setIfInBounds_toArray, List.set_cons_zero, List.set_cons_succ]
 refine tk 8 72 (.int .i64 (op : Nat)) rfl (.inl ⟨by rfl, ?_⟩) hHeld ?_
 ·intro W9 hSW; (try dsimp only at hSW); go_simp
 try simp only [Act.put, List.setIfInBounds_toArray, List.set_cons_zero, List.set_cons_succ]
 refine wpAnyH_ready (rs := [9]) (by kernel_rfl) (by simp) ?_
 refine AllReadyH.cons (o := { dst := some 73, op := _, type := _, pos := _, after := _, guard := _ }) rfl (fun K hK => ?_) AllReadyH.nil
 go_simp
 go_at_call 104
 refine (HLV.out _).mono ?_
 rintro e w5 ⟨rfl, rfl⟩
 refine hK.out _ _ hHeld (fun hHeld => ?_)
 clear hK K
 refine tk 10 74 (.int .i64 ((levV op + 1 : Nat) : Int)) rfl (.inl ⟨by rfl, ?_⟩) hHeld ?_
 ·intro W9 hSW; (try dsimp only at hSW); go_simp
 try simp only [Act.put, List.setIfInBounds_toArray, List.set_cons_zero, List.set_cons_succ]
 refine wpAnyH_ready (rs := [11]) (by kernel_rfl) (by simp) ?_
 refine AllReadyH.cons (o := { dst := some 75, op := _, type := _, pos := _, after := _, guard := _ }) rfl (fun K hK => ?_) AllReadyH.nil
 go_simp
 go_at_call 73
 refine HEY.out.mono ?_
 rintro e w6 ⟨rfl, h6, hb6, ho6⟩
 have HB6 := zz (HBD2.out.trans hb6)
 have HO6 : Hid (Others b w w6) := zz ((HO4.out.trans (Others.of_new (Below.drew (Below.refl _ _)))).trans ho6)
 have h6' : PC B b (l ++ (exV (levV op) x ++ ([32] ++ (sgV op ++ ([32] ++ exV (levV op + 1) y))))) w6 := by
  have e : l ++ (exV (levV op) x ++ ([32] ++ (sgV op ++ ([32] ++ exV (levV op + 1) y)))) = l ++ exV (levV op) x ++ catV [⟨#[32]⟩, mkT (sgV op), ⟨#[32]⟩] ++ exV (levV op + 1) y := by
   show _ = l ++ exV (levV op) x ++ ([32] ++ (sgV op ++ ([32] ++ []))) ++ exV (levV op + 1) y
   simp only [List.append_assoc, List.append_nil]
  rw [e]; exact h6
 have H6 := zz h6'
 have e4 := (HC.out w6 HB6.out).1
 have e6 := (HC.out w6 HB6.out).2
 clear h6 h6' hb6 ho6
 refine hK.out _ _ ⟨e4, e6⟩ (fun hHeld => ?_)
 clear hK K
 refine wpAnyH_done (by kernel_rfl) ?_ _
 go_wp2_with fail
 try simp only [Exit.inBlock, Exit.then]
 go_end0
 exact ⟨rfl, H6.out, HB6.out, HO6.out⟩
theorem bare_call {B b bk : Nat} {name : Lx.B} {ar : List Ex} {av : Value} (l : List UInt8) (w : World) (h : PC B b l w) (hB : B <= w.heap.size) (hP : PEnv B w) (c0 : w.cell? ⟨bk, 0, none⟩ = some (.int .i64 7)) (c3 : w.cell? ⟨bk, 3, none⟩ = some (.string (mkT name))) (c7 : w.cell? ⟨bk, 7, none⟩ = some av) (hbk : bk < B)
  (hx : ArgsAt B b w av ar) (hA : ∀ x ∈ ar, PExprC B b x) (hlen : l.length + (name ++ ([40] ++ (argL true ar ++ [41]))).length <= 1000000) :
  Writes B b l (name ++ ([40] ++ (argL true ar ++ [41]))) w 105 #[.pointer (some ⟨b, 0, none⟩), .pointer (some ⟨bk, 0, none⟩)] := by
 unfold Writes
 have hbd : Below B w w.drew := Below.drew (Below.refl B w)
 have hxd : ArgsAt B b w.drew av ar := hx.drew
 obtain ⟨ao, n, cap, rfl⟩ : ∃ ao n cap, av = .slice ao n cap := by
  rcases hx with ⟨e1, e2⟩ | ⟨g, cap, e1, _⟩
  ·exact ⟨_, _, _, e1⟩
  ·exact ⟨_, _, _, e1⟩
 have H := zz (pcall_any name ar hA l w.drew _ (h.fresh (Below.drew (Below.refl _ _))) hB (hP.below hbd) hxd hlen)
 have HC : Hid (∀ W', Below B w W' -> W'.cell? ⟨bk, 3, none⟩ = some (.string (mkT name)) /\ W'.cell? ⟨bk, 7, none⟩ = some (.slice ao n cap)) := zz fun W' hb => ⟨by rw [hb.cell (p := ⟨bk, 3, none⟩) hbk]; exact c3, by rw [hb.cell (p := ⟨bk, 7, none⟩) hbk]; exact c7⟩
 have HBD := zz hbd
 clear h hB hP hx hA hlen hbk hbd hxd
 go_enter Tryz.func105, Tryz.ntmps105
 go_wp2_with fail
 refine wp_region_held_drew (S := (fun W' : World => W'.cell? ⟨bk, 3, none⟩ = some (.string (mkT name)) /\ W'.cell? ⟨bk, 7, none⟩ = some (.slice ao n cap))) (by kernel_rfl) ⟨by simp only [World.cell?_drew]; assumption, by simp only [World.cell?_drew]; assumption⟩ (fun hHeld => ?_)
 refine tk 0 123 (.pointer (some ⟨b, 0, none⟩)) rfl (.inl ⟨by rfl, ?_⟩) hHeld ?_
 ·intro W9 hSW; (try dsimp only at hSW); go_simp
 try simp only [Act.put, List.setIfInBounds_toArray, List.set_cons_zero, List.set_cons_succ]
 refine tk 1 124 (.pointer (some ⟨bk, 0, none⟩)) rfl (.inl ⟨by rfl, ?_⟩) hHeld ?_
 ·intro W9 hSW; (try dsimp only at hSW); go_simp
 try simp only [Act.put, List.setIfInBounds_toArray, List.set_cons_zero, List.set_cons_succ]
 refine tk 2 125 (.pointer (some ⟨bk, 0, none⟩)) rfl (.inl ⟨by rfl, ?_⟩) hHeld ?_
 ·intro W9 hSW; (try dsimp only at hSW); go_simp
 try simp only [Act.put, List.setIfInBounds_toArray, List.set_cons_zero, List.set_cons_succ]
 refine tk 3 126 (.pointer (some ⟨bk, 3, none⟩)) rfl (.inl ⟨by rfl, ?_⟩) hHeld ?_
 ·intro W9 hSW; (try dsimp only at hSW); go_simp
 try simp only [Act.put, List.setIfInBounds_toArray, List.set_cons_zero, List.set_cons_succ]
 refine tk 4 127 (.string (mkT name)) rfl (.inl ⟨by rfl, ?_⟩) hHeld ?_
 ·intro W9 hSW; (try dsimp only at hSW); go_simp
 try simp only [Act.put, List.setIfInBounds_toArray, List.set_cons_zero, List.set_cons_succ]
 refine tk 5 128 (.pointer (some ⟨bk, 0, none⟩)) rfl (.inl ⟨by rfl, ?_⟩) hHeld ?_
 ·intro W9 hSW; (try dsimp only at hSW); go_simp
 try simp only [Act.put, List.setIfInBounds_toArray, List.set_cons_zero, List.set_cons_succ]
 refine tk 6 129 (.pointer (some ⟨bk, 0, none⟩)) rfl (.inl ⟨by rfl, ?_⟩) hHeld ?_
 ·intro W9 hSW; (try dsimp only at hSW); go_simp
 try simp only [Act.put, List.setIfInBounds_toArray, List.set_cons_zero, List.set_cons_succ]
 refine tk 7 130 (.pointer (some ⟨bk, 7, none⟩)) rfl (.inl ⟨by rfl, ?_⟩) hHeld ?_
 ·intro W9 hSW; (try dsimp only at hSW); go_simp
 try simp only [Act.put, List.setIfInBounds_toArray, List.set_cons_zero, List.set_cons_succ]
 refine tk 8 131 (.slice ao n cap) rfl (.inl ⟨by rfl, ?_⟩) hHeld ?_
 ·intro W9 hSW; (try dsimp only at hSW); go_simp
 try simp only [Act.put, List.setIfInBounds_toArray, List.set_cons_zero, List.set_cons_succ]
 refine wpAnyH_ready (rs := [9]) (by kernel_rfl) (by simp) ?_
 refine AllReadyH.cons (o := { dst := some 132, op := _, type := _, pos := _, after := _, guard := _ }) rfl (fun K hK => ?_) AllReadyH.nil
 go_simp
 go_at_call 137
 refine H.out.mono ?_
 rintro e w2 ⟨rfl, h2, hb2, ho2⟩
 have HB2 := zz (HBD.out.trans hb2)
 have HO2 : Hid (Others b w w2) := zz ((Others.of_new (Below.drew (Below.refl _ _))).trans ho2)
 have H2 := zz h2
 clear h2 hb2 ho2
 refine hK.out _ _ (HC.out w2 HB2.out) (fun hHeld => ?_)
 clear hK K
 refine wpAnyH_done (by kernel_rfl) ?_ _
 go_wp2_with fail
 try simp only [Exit.inBlock, Exit.then]
 go_end0
 exact ⟨rfl, H2.out, HB2.out, HO2.out⟩
theorem bare_other {B b bk code : Nat} (hc : code = 0 \/ 10 < code) (l : List UInt8) (w : World) (h : PC B b l w) (c0 : w.cell? ⟨bk, 0, none⟩ = some (.int .i64 (code : Nat))) :
  Writes B b l [] w 105 #[.pointer (some ⟨b, 0, none⟩), .pointer (some ⟨bk, 0, none⟩)] := by
 unfold Writes
 rw [List.append_nil]
 have H := zz h
 have e1 : ((code : Int) == 1) = false := beq_eq_false_iff_ne.2 (by omega)
 have e2 : ((code : Int) == 2) = false := beq_eq_false_iff_ne.2 (by omega)
 have e3 : ((code : Int) == 3) = false := beq_eq_false_iff_ne.2 (by omega)
 have e4 : ((code : Int) == 4) = false := beq_eq_false_iff_ne.2 (by omega)
 have e5 : ((code : Int) == 5) = false := beq_eq_false_iff_ne.2 (by omega)
 have e6 : ((code : Int) == 6) = false := beq_eq_false_iff_ne.2 (by omega)
 have e7 : ((code : Int) == 7) = false := beq_eq_false_iff_ne.2 (by omega)
 have e8 : ((code : Int) == 8) = false := beq_eq_false_iff_ne.2 (by omega)
 have e9 : ((code : Int) == 9) = false := beq_eq_false_iff_ne.2 (by omega)
 have e10 : ((code : Int) == 10) = false := beq_eq_false_iff_ne.2 (by omega)
 clear h hc
 go_enter Tryz.func105, Tryz.ntmps105
 go_wp2_with fail
 try simp only [Exit.inBlock, Exit.then]
 go_end0
 exact ⟨rfl, H.out, Below.refl _ _, Others.refl _ _⟩
theorem exsIn_at {F : Nat -> Prop} {g : Nat} : ∀ (xs : Exs) (i : Nat), ExsIn w F g i xs -> ∀ (j : Nat) (x : Ex), xs.toList[j]? = some x -> ∃ v, w.cell? ⟨g, (i + j : Nat), none⟩ = some v /\ ExIn w F v x
 | .nil, _, _, j, x, h => by simp [Exs.toList] at h
 | .cons y ys, i, ⟨h1, h2⟩, 0, x, h => by
  obtain ⟨v, a1, a2⟩ := h1
  have e : y = x := by simpa [Exs.toList] using h
  subst e
  exact ⟨v, a1, a2⟩
 | .cons y ys, i, ⟨h1, h2⟩, j + 1, x, h => by
  obtain ⟨v, a1, a2⟩ := exsIn_at ys (i + 1) h2 j x (by simpa [Exs.toList] using h)
  exact ⟨v, by rw [show i + (j + 1) = i + 1 + j by omega]; exact a1, a2⟩
theorem argsAt_of {B b : Nat} {av : Value} {args : Exs} (ha : (av = .slice none 0 0 /\ args.len = 0) \/ ∃ g cap, av = .slice (some ⟨g, 0, none⟩) args.len cap /\ args.len <= cap /\ cap <= maxLen /\ 0 < args.len /\ g < B)
  (has : ∀ g n cap, av = .slice (some ⟨g, 0, none⟩) n cap -> ExsIn w (fun k => k < B) g 0 args) : ArgsAt B b w av args.toList := by
 rcases ha with ⟨e1, e2⟩ | ⟨g, cap, e1, _, _, _, hg⟩
 ·refine Or.inl ⟨e1, ?_⟩
  cases args with
  | nil => rfl
  | cons x xs => exact absurd e2 (by show xs.len + 1 ≠ 0; omega)
 ·refine Or.inr ⟨g, cap, by rw [e1, Exs.len_list], fun W' hb _ i => hb.cell (p := ⟨g, i, none⟩) hg, fun i x hi => ?_⟩
  obtain ⟨v, a1, a2⟩ := exsIn_at args 0 (has g _ _ e1) i x hi
  rw [Nat.zero_add] at a1
  exact ⟨v, a1, a2⟩
theorem exIn_ptr {F : Nat -> Prop} {v : Value} {x : Ex} (h : ExIn w F v x) : ∃ q, v = .pointer q := by
 cases x with
 | nil => exact ⟨none, h⟩
 | mk => obtain ⟨b, _, _, _, e, _⟩ := h; exact ⟨_, e⟩
theorem bare_any {B b : Nat} (code at_ n op : Nat) (name : Lx.B) (lx rx : Ex) (args : Exs) (hn : n <= 9223372036854775807) (hL : PExprC B b lx) (hR : PExprC B b rx) (hA : ∀ x ∈ args.toList, PExprC B b x) : BareC B b (.mk code at_ n op name lx rx args) := by
 intro l w v h hB hP hx hlen _
 obtain ⟨bk, lv, rv, av, rfl, hbk, c0, _, c2, c3, c4, c5, c6, c7, hl, hr, ha, has⟩ := hx
 obtain ⟨q, rfl⟩ := exIn_ptr hl
 obtain ⟨p, rfl⟩ := exIn_ptr hr
 by_cases h1 : code = 1
 ·subst h1
  have e : bareV (.mk 1 at_ n op name lx rx args) = sOfB n := by rw [bareV]; rfl
  rw [e] at hlen ⊢
  exact bare_num l w h hB hP c0 c2 hn hlen
 by_cases h2 : code = 2
 ·subst h2
  have e : bareV (.mk 2 at_ n op name lx rx args) = if n = 0 then tFalse else tTrue := by rw [bareV]; rfl
  rw [e] at hlen ⊢
  exact bare_bool l w h hB c0 c2 hlen
 by_cases h3 : code = 3
 ·subst h3
  have e : bareV (.mk 3 at_ n op name lx rx args) = tNil := by rw [bareV]; rfl
  rw [e] at hlen ⊢
  exact bare_nil l w h hB c0 hlen
 by_cases h4 : code = 4
 ·subst h4
  have e : bareV (.mk 4 at_ n op name lx rx args) = name := by rw [bareV]; rfl
  rw [e] at hlen ⊢
  exact bare_name l w h hB c0 c3 hlen
 by_cases h5 : code = 5
 ·subst h5
  have e : bareV (.mk 5 at_ n op name lx rx args) = exV (levV op) lx ++ ([32] ++ (sgV op ++ ([32] ++ exV (levV op + 1) rx))) := by rw [bareV]; rfl
  rw [e] at hlen ⊢
  exact bare_bin l w h hB hP c0 c4 c5 c6 hbk hl hr hL hR hlen
 by_cases h6 : code = 6
 ·subst h6
  have e : bareV (.mk 6 at_ n op name lx rx args) = signL op ++ exV 6 lx := by rw [bareV]; rfl
  rw [e] at hlen ⊢
  exact bare_un l w h hB hP c0 c4 c5 hl hL hbk hlen
 by_cases h7 : code = 7
 ·subst h7
  have e : bareV (.mk 7 at_ n op name lx rx args) = name ++ ([40] ++ (argL true args.toList ++ [41])) := by rw [bareV, argV_list]; rfl
  rw [e] at hlen ⊢
  exact bare_call l w h hB hP c0 c3 c7 hbk (argsAt_of ha has) hA hlen
 by_cases h8 : code = 8
 ·subst h8
  have e : bareV (.mk 8 at_ n op name lx rx args) = tMake ++ ([40] ++ (exV 1 lx ++ [41])) := by rw [bareV]; rfl
  rw [e] at hlen ⊢
  exact bare_make l w h hB hP c0 c5 hl hL hlen
 by_cases h9 : code = 9
 ·subst h9
  have e : bareV (.mk 9 at_ n op name lx rx args) = tLen ++ ([40] ++ (exV 1 lx ++ [41])) := by rw [bareV]; rfl
  rw [e] at hlen ⊢
  exact bare_len l w h hB hP c0 c5 hl hL hlen
 by_cases h10 : code = 10
 ·subst h10
  have e : bareV (.mk 10 at_ n op name lx rx args) = tArrow ++ exV 6 lx := by rw [bareV]; rfl
  rw [e] at hlen ⊢
  exact bare_recv l w h hB hP c0 c5 hl hL hbk hlen
 ·have e : bareV (.mk code at_ n op name lx rx args) = [] := by rw [bareV, if_neg h1, if_neg h2, if_neg h3, if_neg h4, if_neg h5, if_neg h6, if_neg h10, if_neg h8, if_neg h9, if_neg h7]
  rw [e]
  exact bare_other (by omega) l w h c0
mutual
theorem pexpr_all {B b : Nat} : ∀ x : Ex, ExOk x -> PExprC B b x
 | .nil, _ => pexpr_any (fun _ _ _ _ _ _ _ _ h => absurd rfl h)
 | .mk code at_ n op name lx rx args, h => pexpr_any (bare_any code at_ n op name lx rx args h.1 (pexpr_all lx h.2.1) (pexpr_all rx h.2.2.1) (pexprs_all args h.2.2.2))
theorem pexprs_all {B b : Nat} : ∀ xs : Exs, ExsOk xs -> ∀ x ∈ xs.toList, PExprC B b x
 | .nil, _, x, hx => by cases hx
 | .cons y ys, h, x, hx => by
  rcases List.mem_cons.1 hx with e | e
  ·rw [e]; exact pexpr_all y h.1
  ·exact pexprs_all ys h.2 x e
end
theorem mkT_app (a c : Lx.B) : mkT a ++ mkT c = mkT (a ++ c) := by
 apply ByteArray.ext
 rw [ByteArray.data_append]
 simp [mkT]
theorem fresh_alloc (w : World) (xs : Array Value) (e : TypeId) : Below w.heap.size w (w.alloc (.cells xs e)) := ((Keeps.refl (fun _ => False) w).alloc _).below (Nat.le_refl _) (fun _ _ e => e.elim)
theorem pc_new (w : World) : PC w.heap.size w.heap.size [] (w.alloc (.cells #[.pointer none, .slice none 0 0] 80)) :=
 ⟨Lib.fresh_isBuilder _ _ w, fun _ => by rw [Lib.cell_of_heap (heap_alloc_new w _)]; rfl⟩
def Tells (w : World) (f : FuncId) (args : Array Value) (t : List UInt8) : Prop := Calls Tryz.prog f args w fun e w' => e = .returned (.string (mkT t)) /\ Below w.heap.size w w'
theorem written_ex {B : Nat} (x : Ex) (hok : ExOk x) (least : Nat) (w : World) (v : Value) (hB : B <= w.heap.size) (hP : PEnv B w) (hx : ExIn w (fun k => k < B) v x) (hlen : (exV least x).length <= 1000000) :
  Tells w 42 #[v, .int .i64 (least : Nat)] (exV least x) := by
 unfold Tells
 obtain ⟨q, rfl⟩ := exIn_ptr hx
 have hb := fresh_alloc w #[.pointer none, .slice none 0 0] 80
 have HE := zz (pexpr_all x hok least [] (w.alloc (.cells #[.pointer none, .slice none 0 0] 80)) (.pointer q) (pc_new w) hb.size ((hP.mono hB).below hb) ((ExIn.mono (fun k _ (hk : k < B) => Nat.lt_of_lt_of_le hk hB) _ _ hx).below hb) (by rw [List.length_nil, Nat.zero_add]; exact hlen))
 have HB := zz hb
 clear hB hP hx hlen hb hok
 go_enter Tryz.func42, Tryz.ntmps42
 go_wp2_with fail
 refine HE.out.mono ?_
 rintro e w2 ⟨rfl, h2, hb2, ho2⟩
 have HS := zz (pString_any _ _ _ _ h2)
 have HB2 := zz (HB.out.trans hb2)
 clear h2 hb2 ho2
 go_wp2_with fail
 refine HS.out.mono ?_
 rintro e w3 ⟨rfl, hb3⟩
 have HB3 := zz (HB2.out.trans hb3)
 clear hb3
 go_wp2_with fail
 try simp only [Exit.inBlock, Exit.then]
 go_ret
 exact ⟨rfl, HB3.out⟩
theorem text_ex {B : Nat} (x : Ex) (hok : ExOk x) (w : World) (v : Value) (hB : B <= w.heap.size) (hP : PEnv B w) (hx : ExIn w (fun k => k < B) v x) (hlen : (exV 1 x).length <= 1000000) :
  Tells w 20 #[v] (exV 1 x) := by
 unfold Tells
 obtain ⟨q, rfl⟩ := exIn_ptr hx
 have HC := zz (written_ex x hok 1 w _ hB hP hx hlen)
 clear hB hP hx hlen hok
 go_enter Tryz.func20, Tryz.ntmps20
 go_wp2_with fail
 refine HC.out.mono ?_
 rintro e w2 ⟨rfl, hb2⟩
 have HB2 := zz hb2
 clear hb2
 go_wp2_with fail
 try simp only [Exit.inBlock, Exit.then]
 go_ret
 exact ⟨rfl, HB2.out⟩
def sentV (x y : Ex) : Lx.B := exV 6 x ++ ([32, 60, 45, 32] ++ exV 1 y)
theorem sent_ex {B : Nat} (x y : Ex) (hokx : ExOk x) (hoky : ExOk y) (w : World) (v u : Value) (hB : B <= w.heap.size) (hP : PEnv B w) (hx : ExIn w (fun k => k < B) v x) (hy : ExIn w (fun k => k < B) u y) (hlen : (sentV x y).length <= 1000000) :
  Tells w 125 #[v, u] (sentV x y) := by
 unfold Tells
 have hl : (exV 6 x).length + (4 + (exV 1 y).length) <= 1000000 := by
  unfold sentV at hlen
  simpa only [List.length_append, List.length_cons, List.length_nil] using hlen
 obtain ⟨q, rfl⟩ := exIn_ptr hx
 obtain ⟨p, rfl⟩ := exIn_ptr hy
 have hs1 : ¬ 9223372036854775807 < (mkT (exV 6 x)).size + 4 := by rw [mkT_size]; omega
 have hs2 : ¬ 9223372036854775807 < (mkT (exV 6 x)).size + 4 + (mkT (exV 1 y)).size := by rw [mkT_size, mkT_size]; omega
 have HC := zz (written_ex x hokx 6 w _ hB hP hx (by omega))
 have HT : Hid (∀ W, Below w.heap.size w W -> Tells W 20 #[.pointer p] (exV 1 y)) := zz fun W hb => text_ex y hoky W _ (Nat.le_trans hB hb.size) (hP.below (hb.mono hB)) (hy.below (hb.mono hB)) (by omega)
 clear hB hP hx hy hlen hokx hoky hl
 go_enter Tryz.func125, Tryz.ntmps125
 go_wp2_with fail
 refine HC.out.mono ?_
 rintro e w2 ⟨rfl, hb2⟩
 have HT2 := zz (HT.out w2 hb2)
 have HB2 := zz hb2
 clear hb2
 go_wp2_with fail
 refine HT2.out.mono ?_
 rintro e w3 ⟨rfl, hb3⟩
 have HB3 := zz (HB2.out.trans (hb3.mono HB2.out.size))
 clear hb3
 go_wp2_with fail
 try simp only [Exit.inBlock, Exit.then]
 go_ret
 refine ⟨?_, HB3.out⟩
 refine congrArg Ending.returned (congrArg Value.string ?_)
 rw [show (⟨#[32, 60, 45, 32]⟩ : ByteArray) = mkT [32, 60, 45, 32] from rfl, mkT_app, mkT_app, List.append_assoc]
 rfl
def kindB (k : Nat) : Lx.B := kindsL.getD k []
theorem kindText_any (k : Nat) (w : World) (hK : KindsT w) : Calls Tryz.prog 66 #[.int .i64 (k : Nat)] w fun e w' => e = .returned (.string (mkT (kindB k))) /\ w = w' := by
 by_cases h : k < 4
 ·have hc := hK k h
  have h1 : (k : Int) < 4 := by omega
  have h0 : decide ((k : Int) < 0) = false := by simp
  have h2 : 0 <= (k : Int) := by omega
  have h3 : decide (4 <= (k : Int)) = false := by simpa using h1
  have HE : Hid (mkT (kindB k) = ⟨(kindsL.getD k []).toArray⟩) := zz rfl
  rw [HE.out]
  clear hK h
  go_enter Tryz.func66, Tryz.ntmps66
  go_wp2_with fail
  try simp only [Exit.inBlock, Exit.then]
  go_ret
  exact ⟨rfl, rfl⟩
 ·have h0 : decide ((k : Int) < 0) = false := by simp
  have h3 : decide (4 <= (k : Int)) = true := by simp; omega
  have HE : Hid (mkT (kindB k) = ⟨#[]⟩) := zz (by
   unfold kindB
   rw [List.getD_eq_getElem?_getD, List.getElem?_eq_none]
   ·rfl
   ·have : kindsL.length = 4 := rfl
    omega)
  rw [HE.out]
  clear hK h
  go_enter Tryz.func66, Tryz.ntmps66
  go_wp2_with fail
  try simp only [Exit.inBlock, Exit.then]
  go_ret
  exact ⟨rfl, rfl⟩
def padV : Nat -> Lx.B
 | 0 => []
 | n + 1 => padV n ++ [32, 32]
theorem padV_len : ∀ n, (padV n).length = 2 * n
 | 0 => rfl
 | n + 1 => by show (padV n ++ [32, 32]).length = _; rw [List.length_append, padV_len n]; show 2 * n + 2 = _; omega
def lineV (d : Nat) (t : Lx.B) : Lx.B := padV d ++ (t ++ [10])
theorem lineV_len (d : Nat) (t : Lx.B) : (lineV d t).length = 2 * d + (t.length + 1) := by unfold lineV; rw [List.length_append, padV_len, List.length_append]; rfl
theorem Others.heap {b g : Nat} {xs : Array Value} {e : TypeId} {fz : Nat × Nat} (h : Others b w w') (hg : g ≠ b) (he : e ≠ 5) (hx : w.heap[g]? = some (Obj.cells xs e fz)) : w'.heap[g]? = some (Obj.cells xs e fz) := h g xs e fz hg he hx
theorem line_all (B b g cap d : Nat) (l : List UInt8) (ps : List ByteArray) (xs : Array Value) (fz : Nat × Nat) (w : World) (h : PC B b l w) (hB : B <= w.heap.size) (hg : w.heap[g]? = some (Obj.cells xs 9 fz)) (hgb : g ≠ b) (hx : ∀ j x, ps[j]? = some x -> w.cell? ⟨g, j, none⟩ = some (.string x)) (hlen : l.length + (lineV d (catV ps)).length <= 1000000) (hn : ps.length <= 10000) :
  Writes B b l (lineV d (catV ps)) w 35 #[.pointer (some ⟨b, 0, none⟩), .int .i64 (d : Nat), .slice (some ⟨g, 0, none⟩) ps.length cap] := by
 unfold Writes
 rw [lineV_len] at hlen
 have hd : d <= 1000000 := by omega
 have HI0 : Hid (PC B b (l ++ padV 0) w) := zz (by show PC B b (l ++ []) w; rw [List.append_nil]; exact h)
 have HB := zz hB
 have HG := zz hg
 have HX := zz hx
 have HGB := zz hgb
 have HLEN := zz hlen
 have HN := zz hn
 clear h hB hg hgb hx hlen hn
 go_enter Tryz.func35, Tryz.ntmps35
 go_wp2_with fail
 go_loopw [7] (fun i wr => ∃ k : Nat, k <= d /\ i = .int .i64 k /\ PC B b (l ++ padV k) wr /\ Below B w wr /\ Others b w wr) (fun i _ => d - (intOf i).toNat)
 case atStart => exact ⟨0, Nat.zero_le _, rfl, HI0.out, Below.refl _ _, Others.refl _ _⟩
 case round =>
  obtain ⟨k, hk, rfl, hp, hb, ho⟩ := hrel
  have HP := zz hp
  have HBL := zz hb
  have HO := zz ho
  clear hp hb ho
  by_cases hlt : k < d
  ·have hki : (k : Int) < (d : Int) := by omega
   have hw : IntKind.i64.wrap ((k : Int) + 1) = (k : Int) + 1 := IntWalk.i64_in _ (by omega)
   have HPUT := zz (put_new B b _ [⟨#[32, 32]⟩] wr HP.out (Nat.le_trans HB.out HBL.out.size) (by have := HLEN.out; rw [List.length_append, padV_len]; show _ + 2 <= _; omega) (by simp))
   go_wp2_with fail
   refine HPUT.out.mono ?_
   rintro e w2 ⟨rfl, hp2, hb2, ho2⟩
   have hp2' : PC B b (l ++ padV (k + 1)) w2 := by
    have e : l ++ padV (k + 1) = l ++ padV k ++ catV [⟨#[32, 32]⟩] := by rw [List.append_assoc]; rfl
    rw [e]; exact hp2
   have HP2 := zz hp2'
   have HB2 := zz (HBL.out.trans hb2)
   have HO2 := zz (HO.out.trans ho2)
   clear hp2 hp2' hb2 ho2
   go_wp2_with fail
   exact ⟨⟨k + 1, by omega, by simp, HP2.out, HB2.out, HO2.out⟩, by simp [intOf]; omega⟩
  ·have hki : ¬ (k : Int) < (d : Int) := by omega
   have hkk : k = d := by omega
   have h1 := HP.out
   rw [hkk] at h1
   have hgw := HO.out.heap HGB.out (by decide) HG.out
   have HPUT := zz (put_all B b g cap _ ps xs fz wr h1 (Nat.le_trans HB.out HBL.out.size) hgw HGB.out (fun j x hj => by have := HX.out j x hj; rw [Lib.cell_of_heap HG.out] at this; rw [Lib.cell_of_heap hgw]; exact this) (by have := HLEN.out; rw [List.length_append, padV_len]; omega) HN.out)
   clear h1 hgw hkk
   go_wp2_with fail
   refine HPUT.out.mono ?_
   rintro e w2 ⟨rfl, h2, hb2, ho2⟩
   have HPUT2 := zz (put_new B b _ [⟨#[10]⟩] w2 h2 (Nat.le_trans HB.out (HBL.out.trans hb2).size) (by have := HLEN.out; rw [List.length_append, List.length_append, padV_len]; show _ + 1 <= _; omega) (by simp))
   have HB2 := zz (HBL.out.trans hb2)
   have HO2 := zz (HO.out.trans ho2)
   clear h2 hb2 ho2
   go_wp2_with fail
   refine HPUT2.out.mono ?_
   rintro e w3 ⟨rfl, h3, hb3, ho3⟩
   have H3 : Hid (PC B b (l ++ lineV d (catV ps)) w3) := zz (by
    have e : l ++ lineV d (catV ps) = l ++ padV d ++ catV ps ++ catV [⟨#[10]⟩] := by unfold lineV; simp only [List.append_assoc]; rfl
    rw [e]; exact h3)
   have HB3 := zz (HB2.out.trans hb3)
   have HO3 := zz (HO2.out.trans ho3)
   clear h3 hb3 ho3
   go_wp2_with fail
   go_end0
   exact ⟨rfl, H3.out, HB3.out, HO3.out⟩
theorem line_new (B b d : Nat) (l : List UInt8) (ps : List ByteArray) (w : World) (h : PC B b l w) (hB : B <= w.heap.size) (hlen : l.length + (lineV d (catV ps)).length <= 1000000) (hn : ps.length <= 10000) :
  Calls Tryz.prog 35 #[.pointer (some ⟨b, 0, none⟩), .int .i64 (d : Nat), .slice (some ⟨w.heap.size, 0, none⟩) ps.length ps.length] (w.alloc (.cells (ps.map Value.string).toArray 9)) fun e w' => e = .returned (.tuple #[]) /\ PC B b (l ++ lineV d (catV ps)) w' /\ Below B w w' /\ Others b w w' := by
 have hb := fresh_alloc w (ps.map Value.string).toArray 9
 have hlt := h.1.lt
 refine (line_all B b w.heap.size ps.length d l ps (ps.map Value.string).toArray (0, 0) _ (h.fresh hb) (Nat.le_trans hB hb.size) (heap_alloc_new w _) (by omega) (fun j x hj => cell_new _ _ _ j _ (by simp [hj]) rfl) hlen hn).mono ?_
 rintro e w' ⟨rfl, h1, h2, h3⟩
 exact ⟨rfl, h1, (hb.mono hB).trans h2, (Others.of_new hb).trans h3⟩
end Go.Proofs.YtjejcajnnbilmaaGreatDoor
namespace Go.Proofs.YtjejcajnnbilmaaGreatDoor
open Go.RowKit Lx Tr
def cLet : Lx.B := [32, 58, 61, 32]
def cSet : Lx.B := [32, 61, 32]
def cClose : Lx.B := [99, 108, 111, 115, 101, 40]
def cRp : Lx.B := [41]
def cPrint : Lx.B := [112, 114, 105, 110, 116, 32]
def cSleep : Lx.B := [115, 108, 101, 101, 112, 32]
def cGo : Lx.B := [103, 111, 32]
def cReturn0 : Lx.B := [114, 101, 116, 117, 114, 110]
def cReturn : Lx.B := [114, 101, 116, 117, 114, 110, 32]
def cBreak : Lx.B := [98, 114, 101, 97, 107]
def cContinue : Lx.B := [99, 111, 110, 116, 105, 110, 117, 101]
def cIf : Lx.B := [105, 102, 32]
def cOpen : Lx.B := [32, 123]
def cElse : Lx.B := [125, 32, 101, 108, 115, 101, 32, 123]
def cFor : Lx.B := [102, 111, 114, 32]
def cEnd : Lx.B := [125]
def cSelect : Lx.B := [115, 101, 108, 101, 99, 116, 32, 123]
def cCase : Lx.B := [99, 97, 115, 101, 32]
def cCaseRecv : Lx.B := [99, 97, 115, 101, 32, 60, 45]
def cLetRecv : Lx.B := [32, 58, 61, 32, 60, 45]
def cDefault : Lx.B := [100, 101, 102, 97, 117, 108, 116]
def cColon : Lx.B := [58]
def giveV (d : Nat) (val : Ex) : Lx.B := match val with
 | .nil => lineV d cReturn0
 | x => lineV d (cReturn ++ exV 1 x)
def talkV (code : Nat) (name : Lx.B) (dst val : Ex) : Lx.B :=
 if code = 3 then cCase ++ sentV dst val
 else if code = 10 then (if name = [] then cCaseRecv ++ exV 6 dst else cCase ++ (name ++ (cLetRecv ++ exV 6 dst)))
 else cDefault
mutual
def stV : Nat -> St -> Lx.B
 | d, .mk code _ name dst val thn els cases =>
  if code = 1 then lineV d (name ++ (cLet ++ exV 1 val))
  else if code = 2 then lineV d (name ++ (cSet ++ exV 1 val))
  else if code = 3 then lineV d (sentV dst val)
  else if code = 4 then lineV d (cClose ++ (exV 1 val ++ cRp))
  else if code = 5 then lineV d (cPrint ++ exV 1 val)
  else if code = 6 then lineV d (cSleep ++ exV 1 val)
  else if code = 7 then lineV d (cGo ++ exV 1 val)
  else if code = 8 then giveV d val
  else if code = 9 then lineV d cBreak
  else if code = 10 then lineV d cContinue
  else if code = 11 then lineV d (exV 1 val)
  else if code = 12 then lineV d (cIf ++ (exV 1 val ++ cOpen)) ++ (stsV (d + 1) thn ++ ((if els.len = 0 then [] else lineV d cElse ++ stsV (d + 1) els) ++ lineV d cEnd))
  else if code = 13 then lineV d (cFor ++ (exV 1 val ++ cOpen)) ++ (stsV (d + 1) thn ++ lineV d cEnd)
  else if code = 14 then lineV d cSelect ++ (casV d cases ++ lineV d cEnd)
  else []
def stsV : Nat -> Sts -> Lx.B
 | _, .nil => []
 | d, .cons x xs => stV d x ++ stsV d xs
def caV : Nat -> Ca -> Lx.B
 | d, .mk code _ name dst val body => lineV d (talkV code name dst val ++ cColon) ++ stsV (d + 1) body
def casV : Nat -> Cas -> Lx.B
 | _, .nil => []
 | d, .cons x xs => caV d x ++ casV d xs
end
mutual
def StOk : St -> Prop
 | .mk _ _ _ dst val thn els cases => ExOk dst /\ ExOk val /\ StsOk thn /\ StsOk els /\ CasOk cases
def StsOk : Sts -> Prop
 | .nil => True
 | .cons x xs => StOk x /\ StsOk xs
def CaOk : Ca -> Prop
 | .mk _ _ _ dst val body => ExOk dst /\ ExOk val /\ StsOk body
def CasOk : Cas -> Prop
 | .nil => True
 | .cons x xs => CaOk x /\ CasOk xs
end
end Go.Proofs.YtjejcajnnbilmaaGreatDoor
namespace Go.Proofs.YtjejcajnnbilmaaGreatDoor
open Lx Tr
namespace Tr
def nlT : List (Nat × B) := [(5, [10])]
def giveT (val : Ex) : List (Nat × B) := match val with
 | .nil => [(2, tReturn)]
 | x => [(2, tReturn)] ++ exT 1 x
def talkT (code : Nat) (name : B) (dst val : Ex) : List (Nat × B) :=
 if code = 3 then [(2, tCase)] ++ (exT 6 dst ++ ([(4, tArrow)] ++ exT 1 val))
 else if code = 10 then (if name = [] then [(2, tCase)] ++ ([(4, tArrow)] ++ exT 6 dst) else [(2, tCase)] ++ ([(1, name)] ++ ([(4, tLet)] ++ ([(4, tArrow)] ++ exT 6 dst))))
 else [(2, tDefault)]
mutual
def stT : St -> List (Nat × B)
 | .mk code _ name dst val thn els cases =>
  if code = 1 then [(1, name)] ++ ([(4, tLet)] ++ (exT 1 val ++ nlT))
  else if code = 2 then [(1, name)] ++ ([(4, tSet)] ++ (exT 1 val ++ nlT))
  else if code = 3 then exT 6 dst ++ ([(4, tArrow)] ++ (exT 1 val ++ nlT))
  else if code = 4 then [(2, tClose)] ++ (([(4, [40])] ++ (exT 1 val ++ [(4, [41])])) ++ nlT)
  else if code = 5 then [(2, tPrint)] ++ (exT 1 val ++ nlT)
  else if code = 6 then [(2, tSleep)] ++ (exT 1 val ++ nlT)
  else if code = 7 then [(2, tGo)] ++ (exT 1 val ++ nlT)
  else if code = 8 then giveT val ++ nlT
  else if code = 9 then [(2, tBreak)] ++ nlT
  else if code = 10 then [(2, tContinue)] ++ nlT
  else if code = 11 then exT 1 val ++ nlT
  else if code = 12 then [(2, tIf)] ++ (exT 1 val ++ ([(4, tLb)] ++ (stsT thn ++ ([(4, tRb)] ++ ((if els.len = 0 then [] else [(2, tElse)] ++ ([(4, tLb)] ++ (stsT els ++ [(4, tRb)]))) ++ nlT)))))
  else if code = 13 then [(2, tFor)] ++ (exT 1 val ++ ([(4, tLb)] ++ (stsT thn ++ ([(4, tRb)] ++ nlT))))
  else if code = 14 then [(2, tSelect)] ++ ([(4, tLb)] ++ (casT cases ++ ([(4, tRb)] ++ nlT)))
  else []
def stsT : Sts -> List (Nat × B)
 | .nil => []
 | .cons x xs => stT x ++ stsT xs
def caT : Ca -> List (Nat × B)
 | .mk code _ name dst val body => talkT code name dst val ++ ([(4, tColon)] ++ stsT body)
def casT : Cas -> List (Nat × B)
 | .nil => []
 | .cons x xs => caT x ++ casT xs
end
def GoodO (x : Ex) (d : Nat) : Prop := GoodB x (d + brk 6 x)
mutual
def GoodS : St -> Nat -> Prop
 | .mk code _ name dst val thn els cases, dep =>
  ((code = 1 \/ code = 2) /\ WordT 1 name /\ dst = .nil /\ GoodB val 0 /\ thn = .nil /\ els = .nil /\ cases = .nil) ∨
  (code = 3 /\ name = [] /\ GoodO dst 0 /\ GoodB val 0 /\ thn = .nil /\ els = .nil /\ cases = .nil) ∨
  (code = 4 /\ name = [] /\ dst = .nil /\ GoodB val 1 /\ thn = .nil /\ els = .nil /\ cases = .nil) ∨
  ((code = 5 \/ code = 6) /\ name = [] /\ dst = .nil /\ GoodB val 0 /\ thn = .nil /\ els = .nil /\ cases = .nil) ∨
  (code = 7 /\ name = [] /\ dst = .nil /\ GoodB val 0 /\ codeOf val = 7 /\ thn = .nil /\ els = .nil /\ cases = .nil) ∨
  (code = 8 /\ name = [] /\ dst = .nil /\ (val = .nil \/ GoodB val 0) /\ thn = .nil /\ els = .nil /\ cases = .nil) ∨
  ((code = 9 \/ code = 10) /\ name = [] /\ dst = .nil /\ val = .nil /\ thn = .nil /\ els = .nil /\ cases = .nil) ∨
  (code = 11 /\ name = [] /\ dst = .nil /\ GoodB val 0 /\ (codeOf val = 7 \/ codeOf val = 10) /\ thn = .nil /\ els = .nil /\ cases = .nil) ∨
  (code = 12 /\ name = [] /\ dst = .nil /\ GoodB val 0 /\ dep < 12 /\ GoodSs thn (dep + 1) /\ GoodSs els (dep + 1) /\ cases = .nil) ∨
  (code = 13 /\ name = [] /\ dst = .nil /\ GoodB val 0 /\ dep < 12 /\ GoodSs thn (dep + 1) /\ els = .nil /\ cases = .nil) ∨
  (code = 14 /\ name = [] /\ dst = .nil /\ val = .nil /\ thn = .nil /\ els = .nil /\ dep < 12 /\ cases.len <= 6 /\ GoodCs cases (dep + 1))
def GoodSs : Sts -> Nat -> Prop
 | .nil, _ => True
 | .cons x xs, dep => GoodS x dep /\ GoodSs xs dep
def GoodC : Ca -> Nat -> Prop
 | .mk code _ name dst val body, dep =>
  ((code = 3 /\ name = [] /\ GoodO dst 0 /\ GoodB val 0) \/ (code = 10 /\ name = [] /\ GoodO dst 1 /\ val = .nil) \/ (code = 10 /\ WordT 1 name /\ GoodO dst 0 /\ val = .nil) \/ (code = 40 /\ name = [] /\ dst = .nil /\ val = .nil)) /\ GoodSs body dep
def GoodCs : Cas -> Nat -> Prop
 | .nil, _ => True
 | .cons x xs, dep => GoodC x dep /\ GoodCs xs dep
end
def badL : List B := [[41], tRb, tCase, tDefault, tClose, tPrint, tSleep, tGo, tReturn, tBreak, tContinue, tIf, tFor, tSelect]
theorem word_bad {t : B} (h : WordT 1 t) : t ∉ badL := fun e => by
 have hk : isKeyV t = false := by
  have := h.kind
  by_cases c : isKeyV t = true
  ·rw [if_pos c] at this; cases this
  ·simpa using c
 have : ∀ t ∈ badL, isKeyV t = true \/ letV t = 0 := by decide
 rcases this t e with h2 | h2
 ·rw [hk] at h2; cases h2
 ·have := h.letter; omega
theorem first_good : ∀ (x : Ex) (d k : Nat), GoodB x d -> ∃ q ks, exT k x = q :: ks /\ q.2 ∉ badL /\ q.1 <= 4
 | .nil, _, _, h => by rw [GoodB] at h; exact h.elim
 | .mk code a n op nm l r zs, d, k, h => by
  by_cases c : code = 5 /\ levV op < k
  ·exact ⟨(4, [40]), bareT (.mk code a n op nm l r zs) ++ [(4, [41])], by unfold exT; rw [exWT_yes c]; rfl, by decide, by decide⟩
  have e0 : exT k (.mk code a n op nm l r zs) = bareT (.mk code a n op nm l r zs) := by unfold exT; rw [exWT_no c]
  rw [e0]
  rw [GoodB] at h
  obtain ⟨_, h⟩ := h
  rcases h with ⟨rfl, h1, _⟩ | ⟨rfl, h1, _⟩ | ⟨rfl, _⟩ | ⟨rfl, _, _, h1, _⟩ | ⟨rfl, _, _, _, hv, h1, h2⟩ | ⟨rfl, _, _, _, _, ho, h1⟩ | ⟨rfl, _, _, _, _, _, h1⟩ | ⟨rfl | rfl, _, _, _, _, _, h1⟩ | ⟨rfl, _, _, hw, _, _, h1⟩
  ·refine ⟨(3, sOfB n), [], by rw [bareT]; rfl, fun e => ?_, (by decide : (3 : Nat) <= 4)⟩
   have hd := (num_of n h1).1.digits
   have hp := (num_of n h1).1.pos
   have : ∀ t ∈ badL, t ≠ [] /\ digV t = 0 := by decide
   obtain ⟨q1, q2⟩ := this _ e
   rw [q2] at hd
   exact hp (List.eq_nil_of_length_eq_zero hd.symm)
  ·exact ⟨(2, if n = 0 then tFalse else tTrue), [], by rw [bareT]; rfl, by split <;> decide, (by decide : (2 : Nat) <= 4)⟩
  ·exact ⟨(2, tNil), [], by rw [bareT]; rfl, by decide, by decide⟩
  ·exact ⟨(1, nm), [], by rw [bareT]; rfl, word_bad h1, (by decide : (1 : Nat) <= 4)⟩
  ·obtain ⟨q, ks, e, hq, hk⟩ := first_good l _ (levV op) h1
   exact ⟨q, ks ++ ([(4, sgV op)] ++ exT (levV op + 1) r), by rw [bare_bin.2, e]; rfl, hq, hk⟩
  ·exact ⟨(4, signL op), exT 6 l, by rw [bare_un.2]; rfl, by rcases ho with rfl | rfl | rfl <;> decide, (by decide : (4 : Nat) <= 4)⟩
  ·exact ⟨(4, tArrow), exT 6 l, by rw [bare_recv.2]; rfl, by decide, by decide⟩
  ·exact ⟨(2, tMake), [(4, [40])] ++ (exT 1 l ++ [(4, [41])]), by rw [bare_make.2]; rfl, by decide, by decide⟩
  ·exact ⟨(2, tLen), [(4, [40])] ++ (exT 1 l ++ [(4, [41])]), by rw [bare_len.2]; rfl, by decide, by decide⟩
  ·exact ⟨(1, nm), [(4, [40])] ++ (argT true zs ++ [(4, [41])]), by rw [bare_call.2]; rfl, word_bad hw, (by decide : (1 : Nat) <= 4)⟩
theorem At.first {E : Env} {n k d : Nat} {x : Ex} {ks : List (Nat × B)} (h : At E n (exT k x ++ ks)) (hg : GoodB x d) : (pk E n).text ∉ badL /\ (pk E n).kind <= 4 := by
 obtain ⟨q, ks', e, hq, hk⟩ := first_good x d k hg
 rw [e] at h
 have := At.head (ks := ks' ++ ks) h
 rw [this.1, this.2]
 exact ⟨hq, hk⟩
theorem one_second {E : Env} {n d : Nat} {x : Ex} {t : B} {k : Nat} {ks : List (Nat × B)} (h : At E n (exT 6 x ++ ((k, t) :: ks))) (hg : GoodB x d) (ht1 : t ≠ tLet) (ht2 : t ≠ tSet) : ¬ ((pk E n).kind = 1 /\ (pk E (n + 1)).text = tLet) /\ ¬ ((pk E n).kind = 1 /\ (pk E (n + 1)).text = tSet) := by
 have key : (pk E n).kind = 1 -> (pk E (n + 1)).text ≠ tLet /\ (pk E (n + 1)).text ≠ tSet := fun hk => by
  cases x with
  | nil => rw [GoodB] at hg; exact hg.elim
  | mk code a k2 op nm l r zs =>
   by_cases c : code = 5 /\ levV op < 6
   ·have e : exT 6 (.mk code a k2 op nm l r zs) = (4, [40]) :: (bareT (.mk code a k2 op nm l r zs) ++ [(4, [41])]) := by unfold exT; rw [exWT_yes c]; rfl
    rw [e] at h
    rw [(At.head (ks := (bareT (.mk code a k2 op nm l r zs) ++ [(4, [41])]) ++ ((k, t) :: ks)) h).1] at hk
    cases hk
   have e0 : exT 6 (.mk code a k2 op nm l r zs) = bareT (.mk code a k2 op nm l r zs) := by unfold exT; rw [exWT_no c]
   rw [e0] at h
   rw [GoodB] at hg
   obtain ⟨_, hg⟩ := hg
   have no : ∀ {q : Nat} {u : B} {us : List (Nat × B)}, At E n ((q, u) :: us) -> q ≠ 1 -> False := fun h2 hq => by rw [h2.head.1] at hk; exact hq hk
   rcases hg with ⟨rfl, _⟩ | ⟨rfl, _⟩ | ⟨rfl, _⟩ | ⟨rfl, _, _, h1, _⟩ | ⟨rfl, _, _, _, hv, _⟩ | ⟨rfl, _⟩ | ⟨rfl, _⟩ | ⟨rfl | rfl, _⟩ | ⟨rfl, _⟩
   ·rw [show bareT (.mk 1 a k2 op nm l r zs) = [(3, sOfB k2)] by rw [bareT]; rfl] at h
    exact (no (us := (k, t) :: ks) h (by decide)).elim
   ·rw [show bareT (.mk 2 a k2 op nm l r zs) = [(2, if k2 = 0 then tFalse else tTrue)] by rw [bareT]; rfl] at h
    exact (no (us := (k, t) :: ks) h (by decide)).elim
   ·rw [show bareT (.mk 3 a k2 op nm l r zs) = [(2, tNil)] by rw [bareT]; rfl] at h
    exact (no (us := (k, t) :: ks) h (by decide)).elim
   ·rw [show bareT (.mk 4 a k2 op nm l r zs) = [(1, nm)] by rw [bareT]; rfl] at h
    have h2 := (At.tail (ks := (k, t) :: ks) h).head.2
    rw [h2]
    exact ⟨ht1, ht2⟩
   ·exact absurd ⟨rfl, by have := (lev_sig op (lev_lt hv) hv).2.2.2; omega⟩ c
   ·rw [bare_un.2] at h
    exact (no (us := exT 6 l ++ ((k, t) :: ks)) h (by decide)).elim
   ·rw [bare_recv.2] at h
    exact (no (us := exT 6 l ++ ((k, t) :: ks)) h (by decide)).elim
   ·rw [bare_make.2] at h
    have h7 : (pk E n).kind = 2 := (h 0 (2, tMake) rfl).1
    omega
   ·rw [bare_len.2] at h
    have h7 : (pk E n).kind = 2 := (h 0 (2, tLen) rfl).1
    omega
   ·rw [bare_call.2] at h
    have h2 := (At.tail (ks := ([(4, [40])] ++ (argT true zs ++ [(4, [41])])) ++ ((k, t) :: ks)) h)
    rw [(At.head (ks := (argT true zs ++ [(4, [41])]) ++ ((k, t) :: ks)) h2).2]
    exact ⟨by decide, by decide⟩
 exact ⟨fun e => (key e.1).1 e.2, fun e => (key e.1).2 e.2⟩
theorem Ev.step' {α : Type} {g h : Nat -> Res α} {r : Res α} (e : ∀ f, g f = h f) (hh : Ev h r) : Ev g r := by rw [funext e]; exact hh
theorem ex_rd {E : Env} {d n k : Nat} {x : Ex} {t : B} {ks : List (Nat × B)} (hg : GoodB x d) (ha : At E n (exT 1 x ++ ((k, t) :: ks))) (ht : levV (opV t) = 0 /\ t ≠ [40]) : ∃ x', exE x' = exE x /\ Ev (fun f => expr E f d n) (.ok x' (n + (exT 1 x).length)) /\ At E (n + (exT 1 x).length) ((k, t) :: ks) := by
 have h2 := ha.right
 obtain ⟨x', e, hev⟩ := ((all_ok x).2 1 (by decide) (by decide)).closed (d := d) (by rw [brk_one hg]; exact hg) ha.left (by rw [h2.head.2, ht.1]; decide) (by rw [h2.head.2]; exact ht.2)
 exact ⟨x', e, hev, h2⟩
theorem one_rd {E : Env} {d n k : Nat} {x : Ex} {t : B} {ks : List (Nat × B)} (hg : GoodO x d) (ha : At E n (exT 6 x ++ ((k, t) :: ks))) (ht : t ≠ [40]) : ∃ x', exE x' = exE x /\ Ev (fun f => one E f d n) (.ok x' (n + (exT 6 x).length)) /\ At E (n + (exT 6 x).length) ((k, t) :: ks) := by
 have h2 := ha.right
 obtain ⟨x', e, hev⟩ := (all_ok x).1 E d n hg ha.left (by rw [h2.head.2]; exact ht)
 exact ⟨x', e, hev, h2⟩
theorem lvN : levV (opV [10]) = 0 /\ ([10] : B) ≠ [40] := by decide
theorem lvL : levV (opV tLb) = 0 /\ tLb ≠ [40] := by decide
theorem lvC : levV (opV tColon) = 0 /\ tColon ≠ [40] := by decide
theorem stmt_plain {E : Env} {dep n : Nat} (h : (pk E n).text ∉ badL) (f : Nat) : stmt E (f + 1) dep n = plain E f n := by
 have q : ∀ t ∈ badL, (pk E n).text ≠ t := fun t ht e => h (by rw [e]; exact ht)
 rw [stmt_eq, if_neg (q _ (by decide)), if_neg (q _ (by decide)), if_neg (q _ (by decide)), if_neg (q _ (by decide)), if_neg (q _ (by decide)), if_neg (q _ (by decide)), if_neg (q _ (by decide)), if_neg (q _ (by decide)), if_neg (q _ (by decide)), if_neg (q _ (by decide))]
theorem not_bad {E : Env} {n : Nat} (h : (pk E n).text ∉ badL) : (pk E n).text ≠ tRb /\ (pk E n).text ≠ tCase /\ (pk E n).text ≠ tDefault := ⟨fun e => h (by rw [e]; decide), fun e => h (by rw [e]; decide), fun e => h (by rw [e]; decide)⟩
def StRd (s : St) : Prop := ∀ (E : Env) (dep n : Nat), GoodS s dep -> At E n (stT s) -> ((pk E n).text ≠ tRb /\ (pk E n).text ≠ tCase /\ (pk E n).text ≠ tDefault) ∧
 ∃ s' m, stE s' = stE s /\ m + 1 = n + (stT s).length /\ (pk E m).kind = 5 /\ (pk E m).text = [10] /\ Ev (fun f => stmt E f dep n) (.ok s' m)
def appS : Sts -> Sts -> Sts
 | acc, .nil => acc
 | acc, .cons x xs => appS (acc.snoc x) xs
theorem appS_cons (a : St) : ∀ (zs acc : Sts), appS (.cons a acc) zs = .cons a (appS acc zs)
 | .nil, _ => rfl
 | .cons x xs, acc => appS_cons a xs (acc.snoc x)
theorem appS_nil : ∀ zs : Sts, appS .nil zs = zs
 | .nil => rfl
 | .cons x xs => by
  show appS (.cons x .nil) xs = _
  rw [appS_cons, appS_nil xs]
def StsRd (xs : Sts) : Prop := ∀ (E : Env) (dep n : Nat) (cs : Bool) (acc acc' : Sts), stsE acc' = stsE acc -> GoodSs xs dep -> At E n (stsT xs) ->
 ∃ ys, stsE ys = stsE (appS acc xs) /\ ∀ r, Ev (fun f => stmts E f dep cs ys (n + (stsT xs).length)) r -> Ev (fun f => stmts E f dep cs acc' n) r
theorem sts_nil : StsRd .nil := fun E dep n cs acc acc' he _ _ => ⟨acc', he, fun r hr => by rw [stsT] at hr; exact hr⟩
theorem sts_cons {x : St} {xs : Sts} (hx : StRd x) (hxs : StsRd xs) : StsRd (.cons x xs) := fun E dep n cs acc acc' he hg ha => by
 rw [GoodSs] at hg
 rw [stsT] at ha ⊢
 obtain ⟨⟨q1, q2, q3⟩, s', m, e1, hm, hk, ht, hev⟩ := hx E dep n hg.1 ha.left
 have ha2 : At E (m + 1) (stsT xs) := by rw [hm]; exact ha.right
 obtain ⟨ys, e2, hys⟩ := hxs E dep (m + 1) cs (acc.snoc x) (acc'.snoc s') (by rw [stsE_snoc, stsE_snoc, he, e1]) hg.2 ha2
 refine ⟨ys, e2, fun r hr => ?_⟩
 rw [List.length_append, <- Nat.add_assoc, <- hm] at hr
 refine Ev.step (h := fun f => (stmt E f dep n).bind fun s m => if (pk E m).text = tRb then stmts E f dep cs (acc'.snoc s) m else (takeKind E 5 m).bind fun _ m2 => stmts E f dep cs (acc'.snoc s) m2) (fun f => ?_) (Ev.then hev ?_)
 ·rw [stmts_eq, if_neg]
  rintro (e | ⟨_, e | e⟩)
  ·exact q1 e
  ·exact q2 e
  ·exact q3 e
 ·have e3 : (fun f => if (pk E m).text = tRb then stmts E f dep cs (acc'.snoc s') m else (takeKind E 5 m).bind fun _ m2 => stmts E f dep cs (acc'.snoc s') m2) = fun f => stmts E f dep cs (acc'.snoc s') (m + 1) := funext fun f => by
   rw [if_neg (by rw [ht]; decide)]
   unfold takeKind
   rw [if_pos hk]
   rfl
  rw [e3]
  exact hys r hr
theorem sts_closed {xs : Sts} (h : StsRd xs) {E : Env} {dep n : Nat} {cs : Bool} (hg : GoodSs xs dep) (ha : At E n (stsT xs)) (he : (pk E (n + (stsT xs).length)).text = tRb \/ (cs = true /\ ((pk E (n + (stsT xs).length)).text = tCase \/ (pk E (n + (stsT xs).length)).text = tDefault))) :
  ∃ ys, stsE ys = stsE xs /\ Ev (fun f => stmts E f dep cs .nil n) (.ok ys (n + (stsT xs).length)) := by
 obtain ⟨ys, e, hr⟩ := h E dep n cs .nil .nil rfl hg ha
 rw [appS_nil] at e
 exact ⟨ys, e, hr _ (Ev.now (fun e => by cases e) fun f => by rw [stmts_eq, if_pos he])⟩
theorem block_rd {xs : Sts} (h : StsRd xs) {E : Env} {dep n k : Nat} {ks : List (Nat × B)} (hd : dep < 12) (hg : GoodSs xs (dep + 1)) (ha : At E n ((k, tLb) :: (stsT xs ++ ((4, tRb) :: ks)))) :
  ∃ ys, stsE ys = stsE xs /\ Ev (fun f => block E f dep n) (.ok ys (n + 1 + (stsT xs).length + 1)) /\ At E (n + 1 + (stsT xs).length + 1) ks := by
 have h1 := ha.tail
 have h2 := h1.right
 obtain ⟨ys, e, hev⟩ := sts_closed h (cs := false) hg h1.left (Or.inl h2.head.2)
 refine ⟨ys, e, Ev.step (h := fun f => (stmts E f (dep + 1) false .nil (n + 1)).bind fun l n2 => (take E tRb n2).bind fun _ n3 => .ok l n3) (fun f => ?_) (Ev.then hev (Ev.pure (fun e => by cases e) fun f => ?_)), h2.tail⟩
 ·rw [block_eq]
  unfold open_
  rw [if_neg (fun e => by have := e.2; omega), take_ev ha.head.2]
  rfl
 ·rw [take_ev h2.head.2]
  rfl
theorem call_rd {E : Env} {n k d : Nat} {x : Ex} {t : B} {ks : List (Nat × B)} (hg : GoodB x d) (hc : codeOf x = 7) (ha : At E n (exT 1 x ++ ((k, t) :: ks))) (ht : t ≠ [40]) : ∃ x', exE x' = exE x /\ (pk E n).kind = 1 /\ Ev (fun f => call E f d (pk E n) (n + 1)) (.ok x' (n + (exT 1 x).length)) /\ At E (n + (exT 1 x).length) ((k, t) :: ks) := by
 cases x with
 | nil => cases hc
 | mk code a k2 op nm l r zs =>
  have hc' : code = 7 := hc
  subst hc'
  have e1 : exT 1 (.mk 7 a k2 op nm l r zs) = exT 6 (.mk 7 a k2 op nm l r zs) := by unfold exT; rw [exWT_no (fun e => by cases e.1), exWT_no (fun e => by cases e.1)]
  have e2 : exT 6 (.mk 7 a k2 op nm l r zs) = (1, nm) :: ((4, [40]) :: (argT true zs ++ [(4, [41])])) := by unfold exT; rw [exWT_no (fun e => by cases e.1), bare_call.2]; rfl
  rw [e1] at ha ⊢
  obtain ⟨x', e, hev, h2⟩ := one_rd (d := d) (by unfold GoodO; rw [brk_no (fun e => by cases e.1)]; exact hg) ha ht
  rw [e2] at ha
  have hk := (At.head (ks := ((4, [40]) :: (argT true zs ++ [(4, [41])])) ++ ((k, t) :: ks)) ha).1
  have hp := (At.head (ks := (argT true zs ++ [(4, [41])]) ++ ((k, t) :: ks)) (At.tail (t := nm) ha)).2
  refine ⟨x', e, hk, ?_, h2⟩
  have hd : d <= 12 := by rw [GoodB] at hg; exact hg.1
  obtain ⟨h1, f0, hf⟩ := hev
  refine ⟨h1, f0, fun f hle => ?_⟩
  have this : one E (f + 1 + 1) d n = .ok x' (n + (exT 6 (.mk 7 a k2 op nm l r zs)).length) := hf (f + 2) (by omega)
  rw [Tr.one, if_neg (by omega), hk, if_neg (by decide), if_pos rfl, named_eq, if_pos (show (pk E (n + 1)).text = tLp from hp)] at this
  exact this
theorem nb {E : Env} {n : Nat} {t : B} (ht : (pk E n).text = t) (h : t ≠ tRb /\ t ≠ tCase /\ t ≠ tDefault) : (pk E n).text ≠ tRb /\ (pk E n).text ≠ tCase /\ (pk E n).text ≠ tDefault := by rw [ht]; exact h
theorem word_nb {t : B} (h : WordT 1 t) : t ≠ tRb /\ t ≠ tCase /\ t ≠ tDefault := ⟨fun e => word_bad h (by rw [e]; decide), fun e => word_bad h (by rw [e]; decide), fun e => word_bad h (by rw [e]; decide)⟩
theorem stmt_name {E : Env} {dep n : Nat} {t : B} (h : (pk E n).text = t) (hw : WordT 1 t) (f : Nat) : stmt E (f + 1) dep n = plain E f n := stmt_plain (by rw [h]; exact word_bad hw) f
theorem at_close {E : Env} {dep n : Nat} (h : (pk E n).text = tClose) (f : Nat) : stmt E (f + 1) dep n = ((bracketed E f 0 (n + 1)).bind fun x m => .ok (stz 4 (pk E n).at_ [] .nil x) m) := by rw [stmt_eq, h, if_pos rfl]
theorem at_print {E : Env} {dep n : Nat} (h : (pk E n).text = tPrint) (f : Nat) : stmt E (f + 1) dep n = ((expr E f 0 (n + 1)).bind fun x m => .ok (stz 5 (pk E n).at_ [] .nil x) m) := by rw [stmt_eq, h, if_neg (by decide), if_pos rfl]
theorem at_sleep {E : Env} {dep n : Nat} (h : (pk E n).text = tSleep) (f : Nat) : stmt E (f + 1) dep n = ((expr E f 0 (n + 1)).bind fun x m => .ok (stz 6 (pk E n).at_ [] .nil x) m) := by rw [stmt_eq, h, if_neg (by decide), if_neg (by decide), if_pos rfl]
theorem at_go {E : Env} {dep n : Nat} (h : (pk E n).text = tGo) (f : Nat) : stmt E (f + 1) dep n = ((takeKind E 1 (n + 1)).bind fun t m => (call E f 0 t m).bind fun x m2 => .ok (stz 7 (pk E n).at_ [] .nil x) m2) := by rw [stmt_eq, h, if_neg (by decide), if_neg (by decide), if_neg (by decide), if_pos rfl]
theorem at_return {E : Env} {dep n : Nat} (h : (pk E n).text = tReturn) (f : Nat) : stmt E (f + 1) dep n = (if (pk E (n + 1)).kind = 5 \/ (pk E (n + 1)).text = tRb then .ok (stz 8 (pk E n).at_ [] .nil .nil) (n + 1) else (expr E f 0 (n + 1)).bind fun x m => .ok (stz 8 (pk E n).at_ [] .nil x) m) := by rw [stmt_eq, h, if_neg (by decide), if_neg (by decide), if_neg (by decide), if_neg (by decide), if_pos rfl]
theorem at_break {E : Env} {dep n : Nat} (h : (pk E n).text = tBreak) (f : Nat) : stmt E (f + 1) dep n = (.ok (stz 9 (pk E n).at_ [] .nil .nil) (n + 1)) := by rw [stmt_eq, h, if_neg (by decide), if_neg (by decide), if_neg (by decide), if_neg (by decide), if_neg (by decide), if_pos rfl]
theorem at_continue {E : Env} {dep n : Nat} (h : (pk E n).text = tContinue) (f : Nat) : stmt E (f + 1) dep n = (.ok (stz 10 (pk E n).at_ [] .nil .nil) (n + 1)) := by rw [stmt_eq, h, if_neg (by decide), if_neg (by decide), if_neg (by decide), if_neg (by decide), if_neg (by decide), if_neg (by decide), if_pos rfl]
theorem at_if {E : Env} {dep n : Nat} (h : (pk E n).text = tIf) (f : Nat) : stmt E (f + 1) dep n = ((expr E f 0 (n + 1)).bind fun x m => (block E f dep m).bind fun a m2 => if (pk E m2).text = tElse then (block E f dep (m2 + 1)).bind fun b m3 => .ok (.mk 12 (pk E n).at_ [] .nil x a b .nil) m3 else .ok (.mk 12 (pk E n).at_ [] .nil x a .nil .nil) m2) := by rw [stmt_eq, h, if_neg (by decide), if_neg (by decide), if_neg (by decide), if_neg (by decide), if_neg (by decide), if_neg (by decide), if_neg (by decide), if_pos rfl]
theorem at_for {E : Env} {dep n : Nat} (h : (pk E n).text = tFor) (f : Nat) : stmt E (f + 1) dep n = ((expr E f 0 (n + 1)).bind fun x m => (block E f dep m).bind fun a m2 => .ok (.mk 13 (pk E n).at_ [] .nil x a .nil .nil) m2) := by rw [stmt_eq, h, if_neg (by decide), if_neg (by decide), if_neg (by decide), if_neg (by decide), if_neg (by decide), if_neg (by decide), if_neg (by decide), if_neg (by decide), if_pos rfl]
theorem at_select {E : Env} {dep n : Nat} (h : (pk E n).text = tSelect) (f : Nat) : stmt E (f + 1) dep n = ((open_ E dep (n + 1)).bind fun _ m => (cases E f (dep + 1) .nil m).bind fun l m2 => (take E tRb m2).bind fun _ m3 => .ok (.mk 14 (pk E n).at_ [] .nil .nil .nil .nil l) m3) := by rw [stmt_eq, h, if_neg (by decide), if_neg (by decide), if_neg (by decide), if_neg (by decide), if_neg (by decide), if_neg (by decide), if_neg (by decide), if_neg (by decide), if_neg (by decide), if_pos rfl]
theorem st_rd {code a : Nat} {name : B} {dst val : Ex} {thn els : Sts} {cases : Cas} (hThn : StsRd thn) (hEls : StsRd els)
  (hCas : ∀ (E : Env) (dep n : Nat), cases.len <= 6 -> GoodCs cases dep -> At E n (casT cases ++ [(4, tRb)]) -> ∃ cs', casE cs' = casE cases /\ Ev (fun f => Tr.cases E f dep .nil n) (.ok cs' (n + (casT cases).length))) : StRd (.mk code a name dst val thn els cases) := fun E dep n hg ha => by
 rw [GoodS] at hg
 rcases hg with ⟨rfl | rfl, hw, rfl, hv, rfl, rfl, rfl⟩ | ⟨rfl, rfl, hd, hv, rfl, rfl, rfl⟩ | ⟨rfl, rfl, rfl, hv, rfl, rfl, rfl⟩ | ⟨rfl | rfl, rfl, rfl, hv, rfl, rfl, rfl⟩ | ⟨rfl, rfl, rfl, hv, hc, rfl, rfl, rfl⟩ | ⟨rfl, rfl, rfl, hv, rfl, rfl, rfl⟩ | ⟨rfl | rfl, rfl, rfl, rfl, rfl, rfl, rfl⟩ | ⟨rfl, rfl, rfl, hv, hc, rfl, rfl, rfl⟩ | ⟨rfl, rfl, rfl, hv, hdp, hg1, hg2, rfl⟩ | ⟨rfl, rfl, rfl, hv, hdp, hg1, rfl, rfl⟩ | ⟨rfl, rfl, rfl, rfl, rfl, rfl, hdp, h6, hg1⟩
 ·have et : stT (.mk 1 a name .nil val .nil .nil .nil) = (1, name) :: ((4, tLet) :: (exT 1 val ++ nlT)) := by rw [stT]; rfl
  rw [et] at ha ⊢
  have h1 := ha.head
  have h2 := ha.tail
  obtain ⟨x', e, hev, h3⟩ := ex_rd hv h2.tail lvN
  refine ⟨nb h1.2 (word_nb hw), stz 1 (pk E n).at_ (pk E n).text .nil x', _, by rw [h1.2]; exact stE_stz rfl e, ?_, h3.head.1, h3.head.2, Ev.step (h := fun f => plain E f n) (stmt_name h1.2 hw) (Ev.step' (h := fun f => (expr E f 0 (n + 1 + 1)).bind fun x m => .ok (stz 1 (pk E n).at_ (pk E n).text .nil x) m) (fun f => ?_) (Ev.then hev (Ev.pure (fun e => by cases e) fun f => rfl)))⟩
  ·simp only [List.length_cons, List.length_append, nlT, List.length_nil]; omega
  ·unfold plain
   rw [if_pos ⟨h1.1, h2.head.2⟩]
 ·have et : stT (.mk 2 a name .nil val .nil .nil .nil) = (1, name) :: ((4, tSet) :: (exT 1 val ++ nlT)) := by rw [stT]; rfl
  rw [et] at ha ⊢
  have h1 := ha.head
  have h2 := ha.tail
  obtain ⟨x', e, hev, h3⟩ := ex_rd hv h2.tail lvN
  refine ⟨nb h1.2 (word_nb hw), stz 2 (pk E n).at_ (pk E n).text .nil x', _, by rw [h1.2]; exact stE_stz rfl e, ?_, h3.head.1, h3.head.2, Ev.step (h := fun f => plain E f n) (stmt_name h1.2 hw) (Ev.step' (h := fun f => (expr E f 0 (n + 1 + 1)).bind fun x m => .ok (stz 2 (pk E n).at_ (pk E n).text .nil x) m) (fun f => ?_) (Ev.then hev (Ev.pure (fun e => by cases e) fun f => rfl)))⟩
  ·simp only [List.length_cons, List.length_append, nlT, List.length_nil]; omega
  ·unfold plain
   rw [if_neg (fun e => by rw [h2.head.2] at e; exact absurd e.2 (by decide)), if_pos ⟨h1.1, h2.head.2⟩]
 ·have et : stT (.mk 3 a [] dst val .nil .nil .nil) = exT 6 dst ++ ((4, tArrow) :: (exT 1 val ++ nlT)) := by rw [stT]; rfl
  rw [et] at ha ⊢
  have hf := At.first ha hd
  have hs := one_second ha hd (by decide) (by decide)
  obtain ⟨x', e, hev, h2⟩ := one_rd hd ha (by decide)
  obtain ⟨y', e2, hev2, h3⟩ := ex_rd hv h2.tail lvN
  refine ⟨not_bad hf.1, stz 3 (pk E n).at_ [] x' y', _, stE_stz e e2, ?_, h3.head.1, h3.head.2, Ev.step (h := fun f => plain E f n) (stmt_plain hf.1) (Ev.step' (h := fun f => (one E f 0 n).bind fun x m => if (pk E m).text = tArrow then (expr E f 0 (m + 1)).bind fun y m2 => .ok (stz 3 (pk E n).at_ [] x y) m2 else if codeOf x = 7 \/ codeOf x = 10 then .ok (stz 11 (pk E n).at_ [] .nil x) m else fail E 3 m) (fun f => ?_) (Ev.then hev (Ev.step' (h := fun f => (expr E f 0 (n + (exT 6 dst).length + 1)).bind fun y m2 => .ok (stz 3 (pk E n).at_ [] x' y) m2) (fun f => ?_) (Ev.then hev2 (Ev.pure (fun e => by cases e) fun f => rfl)))))⟩
  ·simp only [List.length_cons, List.length_append, nlT, List.length_nil]; omega
  ·unfold plain
   rw [if_neg hs.1, if_neg hs.2]
  ·rw [if_pos h2.head.2]
 ·have et : stT (.mk 4 a [] .nil val .nil .nil .nil) = (2, tClose) :: (([(4, [40])] ++ (exT 1 val ++ [(4, [41])])) ++ nlT) := by rw [stT]; rfl
  rw [et] at ha ⊢
  have h1 := ha.head
  obtain ⟨x', e, hev⟩ := br_any ((all_ok val).2 1 (by decide) (by decide)) (d := 0) hv ha.tail.left
  have h3 := ha.tail.right
  have hl : n + 1 + ([((4 : Nat), ([40] : B))] ++ (exT 1 val ++ [((4 : Nat), ([41] : B))])).length = n + 1 + 1 + (exT 1 val).length + 1 := by simp only [List.length_cons, List.length_append, List.length_nil]; omega
  rw [hl] at h3
  refine ⟨nb h1.2 (by decide), stz 4 (pk E n).at_ [] .nil x', _, stE_stz rfl e, ?_, h3.head.1, h3.head.2, Ev.step (at_close h1.2) (Ev.then hev (Ev.pure (fun e => by cases e) fun f => rfl))⟩
  simp only [List.length_cons, List.length_append, nlT, List.length_nil]; omega
 ·have et : stT (.mk 5 a [] .nil val .nil .nil .nil) = (2, tPrint) :: (exT 1 val ++ nlT) := by rw [stT]; rfl
  rw [et] at ha ⊢
  have h1 := ha.head
  obtain ⟨x', e, hev, h3⟩ := ex_rd hv ha.tail lvN
  refine ⟨nb h1.2 (by decide), stz 5 (pk E n).at_ [] .nil x', _, stE_stz rfl e, ?_, h3.head.1, h3.head.2, Ev.step (at_print h1.2) (Ev.then hev (Ev.pure (fun e => by cases e) fun f => rfl))⟩
  simp only [List.length_cons, List.length_append, nlT, List.length_nil]; omega
 ·have et : stT (.mk 6 a [] .nil val .nil .nil .nil) = (2, tSleep) :: (exT 1 val ++ nlT) := by rw [stT]; rfl
  rw [et] at ha ⊢
  have h1 := ha.head
  obtain ⟨x', e, hev, h3⟩ := ex_rd hv ha.tail lvN
  refine ⟨nb h1.2 (by decide), stz 6 (pk E n).at_ [] .nil x', _, stE_stz rfl e, ?_, h3.head.1, h3.head.2, Ev.step (at_sleep h1.2) (Ev.then hev (Ev.pure (fun e => by cases e) fun f => rfl))⟩
  simp only [List.length_cons, List.length_append, nlT, List.length_nil]; omega
 ·have et : stT (.mk 7 a [] .nil val .nil .nil .nil) = (2, tGo) :: (exT 1 val ++ nlT) := by rw [stT]; rfl
  rw [et] at ha ⊢
  have h1 := ha.head
  obtain ⟨x', e, hk, hev, h3⟩ := call_rd hv hc ha.tail (by decide)
  refine ⟨nb h1.2 (by decide), stz 7 (pk E n).at_ [] .nil x', _, stE_stz rfl e, ?_, h3.head.1, h3.head.2, Ev.step (at_go h1.2) (Ev.step' (h := fun f => (call E f 0 (pk E (n + 1)) (n + 1 + 1)).bind fun x m2 => .ok (stz 7 (pk E n).at_ [] .nil x) m2) (fun f => ?_) (Ev.then hev (Ev.pure (fun e => by cases e) fun f => rfl)))⟩
  ·simp only [List.length_cons, List.length_append, nlT, List.length_nil]; omega
  ·unfold takeKind
   rw [if_pos hk]
   rfl
 ·rcases hv with rfl | hv
  ·have et : stT (.mk 8 a [] .nil .nil .nil .nil .nil) = (2, tReturn) :: nlT := by rw [stT]; rfl
   rw [et] at ha ⊢
   have h1 := ha.head
   have h2 := ha.tail.head
   refine ⟨nb h1.2 (by decide), stz 8 (pk E n).at_ [] .nil .nil, n + 1, stE_stz rfl rfl, rfl, h2.1, h2.2, Ev.now (fun e => by cases e) fun f => ?_⟩
   rw [at_return h1.2, if_pos (Or.inl h2.1)]
  ·have et : stT (.mk 8 a [] .nil val .nil .nil .nil) = (2, tReturn) :: (exT 1 val ++ nlT) := by
    rw [stT]
    cases val with
    | nil => rw [GoodB] at hv; exact hv.elim
    | mk => rfl
   rw [et] at ha ⊢
   have h1 := ha.head
   have hf := At.first ha.tail hv
   obtain ⟨x', e, hev, h3⟩ := ex_rd hv ha.tail lvN
   refine ⟨nb h1.2 (by decide), stz 8 (pk E n).at_ [] .nil x', _, stE_stz rfl e, ?_, h3.head.1, h3.head.2, Ev.step (at_return h1.2) (Ev.step' (h := fun f => (expr E f 0 (n + 1)).bind fun x m => .ok (stz 8 (pk E n).at_ [] .nil x) m) (fun f => ?_) (Ev.then hev (Ev.pure (fun e => by cases e) fun f => rfl)))⟩
   ·simp only [List.length_cons, List.length_append, nlT, List.length_nil]; omega
   ·rw [if_neg]
    rintro (e | e)
    ·have := hf.2; omega
    ·exact (not_bad hf.1).1 e
 ·have et : stT (.mk 9 a [] .nil .nil .nil .nil .nil) = (2, tBreak) :: nlT := by rw [stT]; rfl
  rw [et] at ha ⊢
  have h1 := ha.head
  have h2 := ha.tail.head
  exact ⟨nb h1.2 (by decide), stz 9 (pk E n).at_ [] .nil .nil, n + 1, stE_stz rfl rfl, rfl, h2.1, h2.2, Ev.now (fun e => by cases e) (at_break h1.2)⟩
 ·have et : stT (.mk 10 a [] .nil .nil .nil .nil .nil) = (2, tContinue) :: nlT := by rw [stT]; rfl
  rw [et] at ha ⊢
  have h1 := ha.head
  have h2 := ha.tail.head
  exact ⟨nb h1.2 (by decide), stz 10 (pk E n).at_ [] .nil .nil, n + 1, stE_stz rfl rfl, rfl, h2.1, h2.2, Ev.now (fun e => by cases e) (at_continue h1.2)⟩
 ·have et : stT (.mk 11 a [] .nil val .nil .nil .nil) = exT 6 val ++ ((5, [10]) :: []) := by
   have e6 : exT 1 val = exT 6 val := by
    cases val with
    | nil => rfl
    | mk c2 a2 n2 op2 nm2 l2 r2 zs2 =>
     have hc5 : ¬ c2 = 5 := fun e => by
      subst e
      rcases hc with h | h <;> cases h
     unfold exT
     rw [exWT_no (fun e => hc5 e.1), exWT_no (fun e => hc5 e.1)]
   rw [stT, e6]; rfl
  have hb : brk 6 val = 0 := by
   cases val with
   | nil => rfl
   | mk c2 a2 n2 op2 nm2 l2 r2 zs2 =>
    refine brk_no (fun e => ?_)
    have e1 : c2 = 5 := e.1
    subst e1
    rcases hc with h | h <;> cases h
  rw [et] at ha ⊢
  have hf := At.first ha hv
  have hs := one_second ha hv (by decide) (by decide)
  obtain ⟨x', e, hev, h3⟩ := one_rd (d := 0) (by unfold GoodO; rw [hb]; exact hv) ha (by decide)
  have hcx : codeOf x' = 7 \/ codeOf x' = 10 := by rw [codeOf_of e]; exact hc
  refine ⟨not_bad hf.1, stz 11 (pk E n).at_ [] .nil x', _, stE_stz rfl e, ?_, h3.head.1, h3.head.2, Ev.step (h := fun f => plain E f n) (stmt_plain hf.1) (Ev.step' (h := fun f => (one E f 0 n).bind fun x m => if (pk E m).text = tArrow then (expr E f 0 (m + 1)).bind fun y m2 => .ok (stz 3 (pk E n).at_ [] x y) m2 else if codeOf x = 7 \/ codeOf x = 10 then .ok (stz 11 (pk E n).at_ [] .nil x) m else fail E 3 m) (fun f => ?_) (Ev.then hev (Ev.pure (fun e => by cases e) fun f => ?_)))⟩
  ·simp only [List.length_cons, List.length_append, List.length_nil]; omega
  ·unfold plain
   rw [if_neg hs.1, if_neg hs.2]
  ·rw [if_neg (by rw [h3.head.2]; decide), if_pos hcx]
 ·by_cases h0 : els.len = 0
  ·have et : stT (.mk 12 a [] .nil val thn els .nil) = (2, tIf) :: (exT 1 val ++ ((4, tLb) :: (stsT thn ++ ((4, tRb) :: nlT)))) := by rw [stT]; simp only [reduceIte, Nat.reduceEqDiff, h0]; rfl
   rw [et] at ha ⊢
   have h1 := ha.head
   obtain ⟨x', e, hev, h3⟩ := ex_rd hv ha.tail lvL
   obtain ⟨ys, e2, hev2, h4⟩ := block_rd hThn hdp hg1 h3
   have ee : els = .nil := by cases els with
    | nil => rfl
    | cons => cases h0
   subst ee
   refine ⟨nb h1.2 (by decide), .mk 12 (pk E n).at_ [] .nil x' ys .nil .nil, _, stE_mk rfl e e2 rfl rfl, ?_, h4.head.1, h4.head.2, Ev.step (at_if h1.2) (Ev.then hev (Ev.then hev2 (Ev.pure (fun e => by cases e) fun f => ?_)))⟩
   ·simp only [List.length_cons, List.length_append, nlT, List.length_nil]; omega
   ·rw [if_neg (by rw [h4.head.2]; decide)]
  ·have et : stT (.mk 12 a [] .nil val thn els .nil) = (2, tIf) :: (exT 1 val ++ ((4, tLb) :: (stsT thn ++ ((4, tRb) :: ((2, tElse) :: ((4, tLb) :: (stsT els ++ ((4, tRb) :: nlT)))))))) := by
    rw [stT]
    simp only [reduceIte, Nat.reduceEqDiff, h0]
    simp
   rw [et] at ha ⊢
   have h1 := ha.head
   obtain ⟨x', e, hev, h3⟩ := ex_rd hv ha.tail lvL
   obtain ⟨ys, e2, hev2, h4⟩ := block_rd hThn hdp hg1 h3
   obtain ⟨zs, e3, hev3, h5⟩ := block_rd hEls hdp hg2 h4.tail
   refine ⟨nb h1.2 (by decide), .mk 12 (pk E n).at_ [] .nil x' ys zs .nil, _, stE_mk rfl e e2 e3 rfl, ?_, h5.head.1, h5.head.2, Ev.step (at_if h1.2) (Ev.then hev (Ev.then hev2 (Ev.step' (h := fun f => (block E f dep (n + 1 + (exT 1 val).length + 1 + (stsT thn).length + 1 + 1)).bind fun b m3 => .ok (.mk 12 (pk E n).at_ [] .nil x' ys b .nil) m3) (fun f => ?_) (Ev.then hev3 (Ev.pure (fun e => by cases e) fun f => rfl)))))⟩
   ·simp only [List.length_cons, List.length_append, nlT, List.length_nil]; omega
   ·rw [if_pos h4.head.2]
 ·have et : stT (.mk 13 a [] .nil val thn .nil .nil) = (2, tFor) :: (exT 1 val ++ ((4, tLb) :: (stsT thn ++ ((4, tRb) :: nlT)))) := by rw [stT]; rfl
  rw [et] at ha ⊢
  have h1 := ha.head
  obtain ⟨x', e, hev, h3⟩ := ex_rd hv ha.tail lvL
  obtain ⟨ys, e2, hev2, h4⟩ := block_rd hThn hdp hg1 h3
  refine ⟨nb h1.2 (by decide), .mk 13 (pk E n).at_ [] .nil x' ys .nil .nil, _, stE_mk rfl e e2 rfl rfl, ?_, h4.head.1, h4.head.2, Ev.step (at_for h1.2) (Ev.then hev (Ev.then hev2 (Ev.pure (fun e => by cases e) fun f => rfl)))⟩
  simp only [List.length_cons, List.length_append, nlT, List.length_nil]; omega
 ·have et : stT (.mk 14 a [] .nil .nil .nil .nil cases) = (2, tSelect) :: ((4, tLb) :: (casT cases ++ ((4, tRb) :: nlT))) := by rw [stT]; rfl
  rw [et] at ha ⊢
  have h1 := ha.head
  have h2 := ha.tail.head
  have h3 := ha.tail.tail
  have h4 := h3.right
  obtain ⟨cs', e, hev⟩ := hCas E (dep + 1) (n + 1 + 1) h6 hg1 (At.left (k2 := nlT) (by rw [List.append_assoc]; exact h3))
  refine ⟨nb h1.2 (by decide), .mk 14 (pk E n).at_ [] .nil .nil .nil .nil cs', _, stE_mk rfl rfl rfl rfl e, ?_, h4.tail.head.1, h4.tail.head.2, Ev.step (at_select h1.2) (Ev.step' (h := fun f => (Tr.cases E f (dep + 1) .nil (n + 1 + 1)).bind fun l m2 => (take E tRb m2).bind fun _ m3 => .ok (.mk 14 (pk E n).at_ [] .nil .nil .nil .nil l) m3) (fun f => ?_) (Ev.then hev (Ev.pure (fun e => by cases e) fun f => ?_)))⟩
  ·simp only [List.length_cons, List.length_append, nlT, List.length_nil]; omega
  ·unfold open_
   rw [if_neg (fun e => by have := e.2; omega), take_ev h2.2]
   rfl
  ·rw [take_ev h4.head.2]
   rfl
theorem ca_first {c : Ca} {dep : Nat} (hg : GoodC c dep) : ∃ q ks, caT c = q :: ks /\ (q.2 = tCase \/ q.2 = tDefault) := by
 obtain ⟨code, a, name, dst, val, body⟩ := c
 rw [GoodC] at hg
 rw [caT]
 rcases hg.1 with ⟨rfl, _⟩ | ⟨rfl, rfl, _⟩ | ⟨rfl, hw, _⟩ | ⟨rfl, _⟩
 ·exact ⟨(2, tCase), _, rfl, Or.inl rfl⟩
 ·exact ⟨(2, tCase), _, rfl, Or.inl rfl⟩
 ·refine ⟨(2, tCase), ([(1, name)] ++ ([(4, tLet)] ++ ([(4, tArrow)] ++ exT 6 dst))) ++ ([(4, tColon)] ++ stsT body), ?_, Or.inl rfl⟩
  unfold talkT
  rw [if_neg (by decide), if_pos rfl, if_neg hw.ne]
  rfl
 ·exact ⟨(2, tDefault), _, rfl, Or.inr rfl⟩
def endsCa (t : B) : Prop := t = tRb \/ t = tCase \/ t = tDefault
def CaRd (c : Ca) : Prop := ∀ (E : Env) (dep n : Nat), GoodC c dep -> At E n (caT c) -> endsCa (pk E (n + (caT c).length)).text -> ∃ c', caE c' = caE c /\ Ev (fun f => oneCase E f dep n) (.ok c' (n + (caT c).length))
theorem ca_end {E : Env} {dep n : Nat} {t : Nat × B × Ex × Ex} {code a : Nat} {name : B} {dst val : Ex} {body : Sts} (hb : StsRd body) (hg : GoodSs body dep) (hc : (pk E n).text = tCase) {m : Nat} (ht : Ev (fun f => talk E f (n + 1)) (.ok t m)) (h1 : t.1 = code) (h2 : t.2.1 = name) (h3 : exE t.2.2.1 = exE dst) (h4 : exE t.2.2.2 = exE val) (ha : At E m ((4, tColon) :: stsT body)) (he : endsCa (pk E (m + 1 + (stsT body).length)).text) :
  ∃ c', caE c' = caE (.mk code a name dst val body) /\ Ev (fun f => oneCase E f dep n) (.ok c' (m + 1 + (stsT body).length)) := by
 obtain ⟨ys, e, hev⟩ := sts_closed hb (cs := true) hg ha.tail (by
  rcases he with h | h | h
  ·exact Or.inl h
  ·exact Or.inr ⟨rfl, Or.inl h⟩
  ·exact Or.inr ⟨rfl, Or.inr h⟩)
 subst h1 h2
 refine ⟨.mk t.1 (pk E n).at_ t.2.1 t.2.2.1 t.2.2.2 ys, caE_mk h3 h4 e, Ev.step (h := fun f => (talk E f (n + 1)).bind fun h m2 => (take E tColon m2).bind fun _ m3 => (stmts E f dep true .nil m3).bind fun l m4 => .ok (.mk h.1 (pk E n).at_ h.2.1 h.2.2.1 h.2.2.2 l) m4) (fun f => ?_) (Ev.then ht (Ev.step' (h := fun f => (stmts E f dep true .nil (m + 1)).bind fun l m4 => .ok (.mk t.1 (pk E n).at_ t.2.1 t.2.2.1 t.2.2.2 l) m4) (fun f => ?_) (Ev.then hev (Ev.pure (fun e => by cases e) fun f => rfl))))⟩
 ·rw [oneCase_eq, if_neg (by rw [hc]; decide), take_ev hc]
  rfl
 ·rw [take_ev ha.head.2]
  rfl
theorem ca_rd {code a : Nat} {name : B} {dst val : Ex} {body : Sts} (hb : StsRd body) : CaRd (.mk code a name dst val body) := fun E dep n hg ha he => by
 rw [GoodC] at hg
 obtain ⟨hg, hgb⟩ := hg
 rcases hg with ⟨rfl, rfl, hd, hv⟩ | ⟨rfl, rfl, hd, rfl⟩ | ⟨rfl, hw, hd, rfl⟩ | ⟨rfl, rfl, rfl, rfl⟩
 ·have et : caT (.mk 3 a [] dst val body) = (2, tCase) :: (exT 6 dst ++ ((4, tArrow) :: (exT 1 val ++ ((4, tColon) :: stsT body)))) := by rw [caT]; unfold talkT; rw [if_pos rfl]; simp
  rw [et] at ha he ⊢
  have hl : n + ((2, tCase) :: (exT 6 dst ++ ((4, tArrow) :: (exT 1 val ++ ((4, tColon) :: stsT body))))).length = n + 1 + (exT 6 dst).length + 1 + (exT 1 val).length + 1 + (stsT body).length := by simp only [List.length_cons, List.length_append]; omega
  rw [hl] at he ⊢
  have h1 := ha.tail
  have hs := one_second h1 hd (by decide) (by decide)
  obtain ⟨x', e, hev, h2⟩ := one_rd hd h1 (by decide)
  obtain ⟨y', e2, hev2, h3⟩ := ex_rd hv h2.tail lvC
  refine ca_end (t := (3, [], x', y')) hb hgb ha.head.2 (Ev.step' (h := fun f => (one E f 0 (n + 1)).bind fun x m => if (pk E m).text = tArrow then (expr E f 0 (m + 1)).bind fun y m2 => .ok (3, [], x, y) m2 else if codeOf x = 10 then .ok (10, [], leftOf x, .nil) m else fail E 3 m) (fun f => ?_) (Ev.then hev (Ev.step' (h := fun f => (expr E f 0 (n + 1 + (exT 6 dst).length + 1)).bind fun y m2 => .ok (3, [], x', y) m2) (fun f => ?_) (Ev.then hev2 (Ev.pure (fun e => by cases e) fun f => rfl))))) rfl rfl e e2 h3 he
  ·unfold talk
   rw [if_neg hs.1]
  ·rw [if_pos h2.head.2]
 ·have et : caT (.mk 10 a [] dst .nil body) = (2, tCase) :: ((4, tArrow) :: (exT 6 dst ++ ((4, tColon) :: stsT body))) := by rw [caT]; unfold talkT; rw [if_neg (by decide), if_pos rfl, if_pos rfl]; simp
  rw [et] at ha he ⊢
  have hl : n + ((2, tCase) :: ((4, tArrow) :: (exT 6 dst ++ ((4, tColon) :: stsT body)))).length = n + 1 + 1 + (exT 6 dst).length + 1 + (stsT body).length := by simp only [List.length_cons, List.length_append]; omega
  rw [hl] at he ⊢
  have h1 := ha.tail
  obtain ⟨x', e, hev, h2⟩ := one_rd hd h1.tail (by decide)
  refine ca_end (t := (10, [], x', .nil)) hb hgb ha.head.2 (Ev.step' (h := fun f => (one E f 0 (n + 1)).bind fun x m => if (pk E m).text = tArrow then (expr E f 0 (m + 1)).bind fun y m2 => .ok (3, [], x, y) m2 else if codeOf x = 10 then .ok (10, [], leftOf x, .nil) m else fail E 3 m) (fun f => ?_) (Ev.then (x := .mk 10 (pk E (n + 1)).at_ 0 0 [] x' .nil .nil) (n := n + 1 + 1 + (exT 6 dst).length) (Ev.step (h := fun f => (one E f 1 (n + 1 + 1)).bind fun x m => .ok (.mk 10 (pk E (n + 1)).at_ 0 0 [] x .nil .nil) m) (fun f => ?_) (Ev.then hev (Ev.pure (fun e => by cases e) fun f => rfl))) (Ev.pure (fun e => by cases e) fun f => ?_))) rfl rfl e rfl h2 he
  ·unfold talk
   rw [if_neg (fun e => by rw [h1.head.1] at e; exact absurd e.1 (by decide))]
  ·rw [Tr.one, if_neg (by decide), h1.head.1, h1.head.2, if_neg (by decide), if_neg (by decide), if_neg (by decide), if_neg (by decide), if_pos rfl]
  ·rw [if_neg (by rw [h2.head.2]; decide), if_pos (show codeOf (.mk 10 (pk E (n + 1)).at_ 0 0 [] x' .nil .nil) = 10 from rfl)]
   rfl
 ·have et : caT (.mk 10 a name dst .nil body) = (2, tCase) :: ((1, name) :: ((4, tLet) :: ((4, tArrow) :: (exT 6 dst ++ ((4, tColon) :: stsT body))))) := by rw [caT]; unfold talkT; rw [if_neg (by decide), if_pos rfl, if_neg hw.ne]; simp
  rw [et] at ha he ⊢
  have hl : n + ((2, tCase) :: ((1, name) :: ((4, tLet) :: ((4, tArrow) :: (exT 6 dst ++ ((4, tColon) :: stsT body)))))).length = n + 1 + 1 + 1 + 1 + (exT 6 dst).length + 1 + (stsT body).length := by simp only [List.length_cons, List.length_append]; omega
  rw [hl] at he ⊢
  have h1 := ha.tail
  have h2 := h1.tail
  have h3 := h2.tail
  obtain ⟨x', e, hev, h4⟩ := one_rd hd h3.tail (by decide)
  refine ca_end (t := (10, (pk E (n + 1)).text, x', .nil)) hb hgb ha.head.2 (Ev.step' (h := fun f => (one E f 0 (n + 1 + 1 + 1 + 1)).bind fun x m2 => .ok (10, (pk E (n + 1)).text, x, .nil) m2) (fun f => ?_) (Ev.then hev (Ev.pure (fun e => by cases e) fun f => rfl))) rfl h1.head.2 e rfl h4 he
  unfold talk
  rw [if_pos ⟨h1.head.1, h2.head.2⟩, take_ev (show (pk E (n + 1 + 2)).text = tArrow from h3.head.2)]
  rfl
 ·have et : caT (.mk 40 a [] .nil .nil body) = (2, tDefault) :: ((4, tColon) :: stsT body) := by rw [caT]; rfl
  rw [et] at ha he ⊢
  have hl : n + ((2, tDefault) :: ((4, tColon) :: stsT body)).length = n + 1 + 1 + (stsT body).length := by simp only [List.length_cons]; omega
  rw [hl] at he ⊢
  obtain ⟨ys, e, hev⟩ := sts_closed hb (cs := true) hgb ha.tail.tail (by
   rcases he with h | h | h
   ·exact Or.inl h
   ·exact Or.inr ⟨rfl, Or.inl h⟩
   ·exact Or.inr ⟨rfl, Or.inr h⟩)
  refine ⟨.mk 40 (pk E n).at_ [] .nil .nil ys, caE_mk rfl rfl e, Ev.step (h := fun f => (stmts E f dep true .nil (n + 1 + 1)).bind fun l m2 => .ok (.mk 40 (pk E n).at_ [] .nil .nil l) m2) (fun f => ?_) (Ev.then hev (Ev.pure (fun e => by cases e) fun f => rfl))⟩
  rw [oneCase_eq, if_pos ha.head.2, take_ev ha.tail.head.2]
  rfl
def appC : Cas -> Cas -> Cas
 | acc, .nil => acc
 | acc, .cons x xs => appC (acc.snoc x) xs
theorem appC_cons (a : Ca) : ∀ (zs acc : Cas), appC (.cons a acc) zs = .cons a (appC acc zs)
 | .nil, _ => rfl
 | .cons x xs, acc => appC_cons a xs (acc.snoc x)
theorem appC_nil : ∀ zs : Cas, appC .nil zs = zs
 | .nil => rfl
 | .cons x xs => by
  show appC (.cons x .nil) xs = _
  rw [appC_cons, appC_nil xs]
theorem Cas.len_snocT : ∀ (xs : Cas) (y : Ca), (xs.snoc y).len = xs.len + 1
 | .nil, _ => rfl
 | .cons _ xs, y => congrArg (· + 1) (Cas.len_snocT xs y)
def CasRd (xs : Cas) : Prop := ∀ (E : Env) (dep n : Nat) (acc acc' : Cas), casE acc' = casE acc -> acc.len + xs.len <= 6 -> GoodCs xs dep -> At E n (casT xs ++ [(4, tRb)]) -> ∃ ys, casE ys = casE (appC acc xs) /\ Ev (fun f => Tr.cases E f dep acc' n) (.ok ys (n + (casT xs).length))
theorem cas_head {E : Env} {n dep : Nat} {xs : Cas} (hg : GoodCs xs dep) (ha : At E n (casT xs ++ [(4, tRb)])) : endsCa (pk E n).text := by
 cases xs with
 | nil => rw [casT] at ha; exact Or.inl (At.head (ks := []) ha).2
 | cons x xs =>
  rw [GoodCs] at hg
  rw [casT] at ha
  obtain ⟨q, ks, e, hq⟩ := ca_first hg.1
  rw [e] at ha
  have := (At.head (ks := ks ++ casT xs ++ [(4, tRb)]) ha).2
  rw [this]
  exact Or.inr hq
theorem cas_nil : CasRd .nil := fun E dep n acc acc' he _ _ ha => by
 rw [casT] at ha ⊢
 exact ⟨acc', he, Ev.now (fun e => by cases e) fun f => by rw [cases_eq, if_pos (At.head (ks := []) ha).2]; rfl⟩
theorem cas_cons {x : Ca} {xs : Cas} (hx : CaRd x) (hxs : CasRd xs) : CasRd (.cons x xs) := fun E dep n acc acc' he hl hg ha => by
 rw [GoodCs] at hg
 rw [casT, List.append_assoc] at ha
 rw [casT, List.length_append]
 have h2 := ha.right
 obtain ⟨c', e, hev⟩ := hx E dep n hg.1 ha.left (cas_head hg.2 h2)
 have hlen : acc.len + (xs.len + 1) <= 6 := hl
 obtain ⟨ys, e2, hev2⟩ := hxs E dep (n + (caT x).length) (acc.snoc x) (acc'.snoc c') (by rw [casE_snoc, casE_snoc, he, e]) (by rw [Cas.len_snocT]; omega) hg.2 h2
 refine ⟨ys, e2, ?_⟩
 rw [<- Nat.add_assoc]
 have hla : acc'.len = acc.len := by rw [<- casE_len acc', he, casE_len]
 refine Ev.step (h := fun f => (oneCase E f dep n).bind fun c m => Tr.cases E f dep (acc'.snoc c) m) (fun f => ?_) (Ev.then hev hev2)
 obtain ⟨q, ks, e3, hq⟩ := ca_first hg.1
 have ht : (pk E n).text = q.2 := by
  have h3 := ha.left
  rw [e3] at h3
  exact (At.head (ks := ks) h3).2
 rw [cases_eq, if_neg (by rw [ht]; rcases hq with h | h <;> rw [h] <;> decide), if_neg (by omega)]
mutual
theorem st_all' : ∀ s : St, StRd s
  | .mk _ _ _ _ _ thn els cases => st_rd (sts_all' thn) (sts_all' els) (fun E dep n h6 hg ha => by
      obtain ⟨ys, e, hev⟩ := cas_all' cases E dep n .nil .nil rfl (by show 0 + cases.len <= 6; omega) hg ha
      rw [appC_nil] at e
      exact ⟨ys, e, hev⟩)
theorem sts_all' : ∀ xs : Sts, StsRd xs
  | .nil => sts_nil
  | .cons x xs => sts_cons (st_all' x) (sts_all' xs)
theorem ca_all' : ∀ c : Ca, CaRd c
  | .mk _ _ _ _ _ body => ca_rd (sts_all' body)
theorem cas_all' : ∀ xs : Cas, CasRd xs
  | .nil => cas_nil
  | .cons x xs => cas_cons (ca_all' x) (cas_all' xs)
end
end Tr
end Go.Proofs.YtjejcajnnbilmaaGreatDoor
namespace Go.Proofs.YtjejcajnnbilmaaGreatDoor
open Go.RowKit Lx Tr
variable {w w' : World}
theorem alloc_size (w : World) (o : Obj) : (w.alloc o).heap.size = w.heap.size + 1 := Array.size_push _ ..
theorem stmt_break {B b d : Nat} {at_ : Int} {name : ByteArray} {tq vq no eo co : Option Addr} {nn nc en ec cn cc : Nat} (l : List UInt8) (w : World) (h : PC B b l w) (hB : B <= w.heap.size) (hlen : l.length + (lineV d (cBreak)).length <= 1000000) :
  Writes B b l (lineV d (cBreak)) w 97 #[.pointer (some ⟨b, 0, none⟩), .agg #[.int .i64 9, .int .i64 at_, .string name, .pointer tq, .pointer vq, .slice no nn nc, .slice eo en ec, .slice co cn cc], .int .i64 (d : Nat)] := by
 unfold Writes
 have hb := fresh_alloc w #[.int .i64 9, .int .i64 at_, .string name, .pointer tq, .pointer vq, .slice no nn nc, .slice eo en ec, .slice co cn cc] 49
 have hcat : catV [mkT cBreak] = cBreak := List.append_nil _
 have HL2 := zz (line_new B b d l [mkT cBreak] (w.alloc (.cells #[.int .i64 9, .int .i64 at_, .string name, .pointer tq, .pointer vq, .slice no nn nc, .slice eo en ec, .slice co cn cc] 49)) (h.fresh hb) (Nat.le_trans hB hb.size) (by rw [hcat]; exact hlen) (by simp))
 rw [hcat, alloc_size w] at HL2
 have HB2 := zz (hb.mono hB)
 have HO2 : Hid (Others b w (w.alloc (.cells #[.int .i64 9, .int .i64 at_, .string name, .pointer tq, .pointer vq, .slice no nn nc, .slice eo en ec, .slice co cn cc] 49))) := zz (Others.of_new hb)
 clear h hB hlen hb hcat
 go_enter Tryz.func97, Tryz.ntmps97
 go_wp2_with fail
 refine HL2.out.mono ?_
 rintro e w3 ⟨rfl, h3, hb3, ho3⟩
 have H3 := zz h3
 have HB3 := zz (HB2.out.trans hb3)
 have HO3 := zz (HO2.out.trans ho3)
 clear h3 hb3 ho3
 go_wp2_with fail
 try simp only [Exit.inBlock, Exit.then]
 go_end0
 exact ⟨rfl, H3.out, HB3.out, HO3.out⟩
theorem stmt_continue {B b d : Nat} {at_ : Int} {name : ByteArray} {tq vq no eo co : Option Addr} {nn nc en ec cn cc : Nat} (l : List UInt8) (w : World) (h : PC B b l w) (hB : B <= w.heap.size) (hlen : l.length + (lineV d (cContinue)).length <= 1000000) :
  Writes B b l (lineV d (cContinue)) w 97 #[.pointer (some ⟨b, 0, none⟩), .agg #[.int .i64 10, .int .i64 at_, .string name, .pointer tq, .pointer vq, .slice no nn nc, .slice eo en ec, .slice co cn cc], .int .i64 (d : Nat)] := by
 unfold Writes
 have hb := fresh_alloc w #[.int .i64 10, .int .i64 at_, .string name, .pointer tq, .pointer vq, .slice no nn nc, .slice eo en ec, .slice co cn cc] 49
 have hcat : catV [mkT cContinue] = cContinue := List.append_nil _
 have HL2 := zz (line_new B b d l [mkT cContinue] (w.alloc (.cells #[.int .i64 10, .int .i64 at_, .string name, .pointer tq, .pointer vq, .slice no nn nc, .slice eo en ec, .slice co cn cc] 49)) (h.fresh hb) (Nat.le_trans hB hb.size) (by rw [hcat]; exact hlen) (by simp))
 rw [hcat, alloc_size w] at HL2
 have HB2 := zz (hb.mono hB)
 have HO2 : Hid (Others b w (w.alloc (.cells #[.int .i64 10, .int .i64 at_, .string name, .pointer tq, .pointer vq, .slice no nn nc, .slice eo en ec, .slice co cn cc] 49))) := zz (Others.of_new hb)
 clear h hB hlen hb hcat
 go_enter Tryz.func97, Tryz.ntmps97
 go_wp2_with fail
 refine HL2.out.mono ?_
 rintro e w3 ⟨rfl, h3, hb3, ho3⟩
 have H3 := zz h3
 have HB3 := zz (HB2.out.trans hb3)
 have HO3 := zz (HO2.out.trans ho3)
 clear h3 hb3 ho3
 go_wp2_with fail
 try simp only [Exit.inBlock, Exit.then]
 go_end0
 exact ⟨rfl, H3.out, HB3.out, HO3.out⟩
theorem stmt_close {B b d : Nat} {at_ : Int} {name : ByteArray} {tq vq no eo co : Option Addr} {nn nc en ec cn cc : Nat} {val : Ex} (l : List UInt8) (w : World) (h : PC B b l w) (hB : B <= w.heap.size) (hP : PEnv B w) (hok : ExOk val) (hV : ExIn w (fun k => k < B) (.pointer vq) val) (hlen : l.length + (lineV d (cClose ++ (exV 1 val ++ cRp))).length <= 1000000) :
  Writes B b l (lineV d (cClose ++ (exV 1 val ++ cRp))) w 97 #[.pointer (some ⟨b, 0, none⟩), .agg #[.int .i64 4, .int .i64 at_, .string name, .pointer tq, .pointer vq, .slice no nn nc, .slice eo en ec, .slice co cn cc], .int .i64 (d : Nat)] := by
 unfold Writes
 have hb := fresh_alloc w #[.int .i64 4, .int .i64 at_, .string name, .pointer tq, .pointer vq, .slice no nn nc, .slice eo en ec, .slice co cn cc] 49
 have hcat : catV [mkT cClose, mkT (exV 1 val), mkT cRp] = cClose ++ (exV 1 val ++ cRp) := by show cClose ++ (exV 1 val ++ (cRp ++ [])) = _; rw [List.append_nil]
 have hl0 := hlen
 rw [lineV_len, List.length_append, List.length_append] at hlen
 have HT := zz (text_ex val hok (w.alloc (.cells #[.int .i64 4, .int .i64 at_, .string name, .pointer tq, .pointer vq, .slice no nn nc, .slice eo en ec, .slice co cn cc] 49)) (.pointer vq) (Nat.le_trans hB hb.size) (hP.below (hb.mono hB)) (hV.below (hb.mono hB)) (by omega))
 have HL : Hid (∀ w2, Below (w.alloc (.cells #[.int .i64 4, .int .i64 at_, .string name, .pointer tq, .pointer vq, .slice no nn nc, .slice eo en ec, .slice co cn cc] 49)).heap.size (w.alloc (.cells #[.int .i64 4, .int .i64 at_, .string name, .pointer tq, .pointer vq, .slice no nn nc, .slice eo en ec, .slice co cn cc] 49)) w2 -> Calls Tryz.prog 35 #[.pointer (some ⟨b, 0, none⟩), .int .i64 (d : Nat), .slice (some ⟨w2.heap.size, 0, none⟩) [mkT cClose, mkT (exV 1 val), mkT cRp].length [mkT cClose, mkT (exV 1 val), mkT cRp].length] (w2.alloc (.cells ([mkT cClose, mkT (exV 1 val), mkT cRp].map Value.string).toArray 9)) fun e w' => e = .returned (.tuple #[]) /\ PC B b (l ++ lineV d (cClose ++ (exV 1 val ++ cRp))) w' /\ Below B w2 w' /\ Others b w2 w') := zz fun w2 hb2 => by
  have := line_new B b d l [mkT cClose, mkT (exV 1 val), mkT cRp] w2 ((h.fresh hb).fresh hb2) (Nat.le_trans hB (Nat.le_trans hb.size hb2.size)) (by rw [hcat]; exact hl0) (by simp)
  rw [hcat] at this
  exact this
 have HBW := zz (hb.mono hB)
 have HSZ : Hid (B <= (w.alloc (.cells #[.int .i64 4, .int .i64 at_, .string name, .pointer tq, .pointer vq, .slice no nn nc, .slice eo en ec, .slice co cn cc] 49)).heap.size) := zz (Nat.le_trans hB hb.size)
 have HO1 : Hid (Others b w (w.alloc (.cells #[.int .i64 4, .int .i64 at_, .string name, .pointer tq, .pointer vq, .slice no nn nc, .slice eo en ec, .slice co cn cc] 49))) := zz (Others.of_new hb)
 clear h hB hP hV hlen hl0 hb hcat hok
 go_enter Tryz.func97, Tryz.ntmps97
 go_wp2_with fail
 refine HT.out.mono ?_
 rintro e w2 ⟨rfl, hb2⟩
 have HL2 := zz (HL.out w2 hb2)
 have HB2 := zz (HBW.out.trans (hb2.mono HSZ.out))
 have HO2 : Hid (Others b w w2) := zz (HO1.out.trans (Others.of_new hb2))
 clear hb2
 go_wp2_with fail
 refine HL2.out.mono ?_
 rintro e w3 ⟨rfl, h3, hb3, ho3⟩
 have H3 := zz h3
 have HB3 := zz (HB2.out.trans hb3)
 have HO3 := zz (HO2.out.trans ho3)
 clear h3 hb3 ho3
 go_wp2_with fail
 try simp only [Exit.inBlock, Exit.then]
 go_end0
 exact ⟨rfl, H3.out, HB3.out, HO3.out⟩
theorem stmt_print {B b d : Nat} {at_ : Int} {name : ByteArray} {tq vq no eo co : Option Addr} {nn nc en ec cn cc : Nat} {val : Ex} (l : List UInt8) (w : World) (h : PC B b l w) (hB : B <= w.heap.size) (hP : PEnv B w) (hok : ExOk val) (hV : ExIn w (fun k => k < B) (.pointer vq) val) (hlen : l.length + (lineV d (cPrint ++ exV 1 val)).length <= 1000000) :
  Writes B b l (lineV d (cPrint ++ exV 1 val)) w 97 #[.pointer (some ⟨b, 0, none⟩), .agg #[.int .i64 5, .int .i64 at_, .string name, .pointer tq, .pointer vq, .slice no nn nc, .slice eo en ec, .slice co cn cc], .int .i64 (d : Nat)] := by
 unfold Writes
 have hb := fresh_alloc w #[.int .i64 5, .int .i64 at_, .string name, .pointer tq, .pointer vq, .slice no nn nc, .slice eo en ec, .slice co cn cc] 49
 have hcat : catV [mkT cPrint, mkT (exV 1 val)] = cPrint ++ exV 1 val := by show cPrint ++ (exV 1 val ++ []) = _; rw [List.append_nil]
 have hl0 := hlen
 rw [lineV_len, List.length_append] at hlen
 have HT := zz (text_ex val hok (w.alloc (.cells #[.int .i64 5, .int .i64 at_, .string name, .pointer tq, .pointer vq, .slice no nn nc, .slice eo en ec, .slice co cn cc] 49)) (.pointer vq) (Nat.le_trans hB hb.size) (hP.below (hb.mono hB)) (hV.below (hb.mono hB)) (by omega))
 have HL : Hid (∀ w2, Below (w.alloc (.cells #[.int .i64 5, .int .i64 at_, .string name, .pointer tq, .pointer vq, .slice no nn nc, .slice eo en ec, .slice co cn cc] 49)).heap.size (w.alloc (.cells #[.int .i64 5, .int .i64 at_, .string name, .pointer tq, .pointer vq, .slice no nn nc, .slice eo en ec, .slice co cn cc] 49)) w2 -> Calls Tryz.prog 35 #[.pointer (some ⟨b, 0, none⟩), .int .i64 (d : Nat), .slice (some ⟨w2.heap.size, 0, none⟩) [mkT cPrint, mkT (exV 1 val)].length [mkT cPrint, mkT (exV 1 val)].length] (w2.alloc (.cells ([mkT cPrint, mkT (exV 1 val)].map Value.string).toArray 9)) fun e w' => e = .returned (.tuple #[]) /\ PC B b (l ++ lineV d (cPrint ++ exV 1 val)) w' /\ Below B w2 w' /\ Others b w2 w') := zz fun w2 hb2 => by
  have := line_new B b d l [mkT cPrint, mkT (exV 1 val)] w2 ((h.fresh hb).fresh hb2) (Nat.le_trans hB (Nat.le_trans hb.size hb2.size)) (by rw [hcat]; exact hl0) (by simp)
  rw [hcat] at this
  exact this
 have HBW := zz (hb.mono hB)
 have HSZ : Hid (B <= (w.alloc (.cells #[.int .i64 5, .int .i64 at_, .string name, .pointer tq, .pointer vq, .slice no nn nc, .slice eo en ec, .slice co cn cc] 49)).heap.size) := zz (Nat.le_trans hB hb.size)
 have HO1 : Hid (Others b w (w.alloc (.cells #[.int .i64 5, .int .i64 at_, .string name, .pointer tq, .pointer vq, .slice no nn nc, .slice eo en ec, .slice co cn cc] 49))) := zz (Others.of_new hb)
 clear h hB hP hV hlen hl0 hb hcat hok
 go_enter Tryz.func97, Tryz.ntmps97
 go_wp2_with fail
 refine HT.out.mono ?_
 rintro e w2 ⟨rfl, hb2⟩
 have HL2 := zz (HL.out w2 hb2)
 have HB2 := zz (HBW.out.trans (hb2.mono HSZ.out))
 have HO2 : Hid (Others b w w2) := zz (HO1.out.trans (Others.of_new hb2))
 clear hb2
 go_wp2_with fail
 refine HL2.out.mono ?_
 rintro e w3 ⟨rfl, h3, hb3, ho3⟩
 have H3 := zz h3
 have HB3 := zz (HB2.out.trans hb3)
 have HO3 := zz (HO2.out.trans ho3)
 clear h3 hb3 ho3
 go_wp2_with fail
 try simp only [Exit.inBlock, Exit.then]
 go_end0
 exact ⟨rfl, H3.out, HB3.out, HO3.out⟩
theorem stmt_sleep {B b d : Nat} {at_ : Int} {name : ByteArray} {tq vq no eo co : Option Addr} {nn nc en ec cn cc : Nat} {val : Ex} (l : List UInt8) (w : World) (h : PC B b l w) (hB : B <= w.heap.size) (hP : PEnv B w) (hok : ExOk val) (hV : ExIn w (fun k => k < B) (.pointer vq) val) (hlen : l.length + (lineV d (cSleep ++ exV 1 val)).length <= 1000000) :
  Writes B b l (lineV d (cSleep ++ exV 1 val)) w 97 #[.pointer (some ⟨b, 0, none⟩), .agg #[.int .i64 6, .int .i64 at_, .string name, .pointer tq, .pointer vq, .slice no nn nc, .slice eo en ec, .slice co cn cc], .int .i64 (d : Nat)] := by
 unfold Writes
 have hb := fresh_alloc w #[.int .i64 6, .int .i64 at_, .string name, .pointer tq, .pointer vq, .slice no nn nc, .slice eo en ec, .slice co cn cc] 49
 have hcat : catV [mkT cSleep, mkT (exV 1 val)] = cSleep ++ exV 1 val := by show cSleep ++ (exV 1 val ++ []) = _; rw [List.append_nil]
 have hl0 := hlen
 rw [lineV_len, List.length_append] at hlen
 have HT := zz (text_ex val hok (w.alloc (.cells #[.int .i64 6, .int .i64 at_, .string name, .pointer tq, .pointer vq, .slice no nn nc, .slice eo en ec, .slice co cn cc] 49)) (.pointer vq) (Nat.le_trans hB hb.size) (hP.below (hb.mono hB)) (hV.below (hb.mono hB)) (by omega))
 have HL : Hid (∀ w2, Below (w.alloc (.cells #[.int .i64 6, .int .i64 at_, .string name, .pointer tq, .pointer vq, .slice no nn nc, .slice eo en ec, .slice co cn cc] 49)).heap.size (w.alloc (.cells #[.int .i64 6, .int .i64 at_, .string name, .pointer tq, .pointer vq, .slice no nn nc, .slice eo en ec, .slice co cn cc] 49)) w2 -> Calls Tryz.prog 35 #[.pointer (some ⟨b, 0, none⟩), .int .i64 (d : Nat), .slice (some ⟨w2.heap.size, 0, none⟩) [mkT cSleep, mkT (exV 1 val)].length [mkT cSleep, mkT (exV 1 val)].length] (w2.alloc (.cells ([mkT cSleep, mkT (exV 1 val)].map Value.string).toArray 9)) fun e w' => e = .returned (.tuple #[]) /\ PC B b (l ++ lineV d (cSleep ++ exV 1 val)) w' /\ Below B w2 w' /\ Others b w2 w') := zz fun w2 hb2 => by
  have := line_new B b d l [mkT cSleep, mkT (exV 1 val)] w2 ((h.fresh hb).fresh hb2) (Nat.le_trans hB (Nat.le_trans hb.size hb2.size)) (by rw [hcat]; exact hl0) (by simp)
  rw [hcat] at this
  exact this
 have HBW := zz (hb.mono hB)
 have HSZ : Hid (B <= (w.alloc (.cells #[.int .i64 6, .int .i64 at_, .string name, .pointer tq, .pointer vq, .slice no nn nc, .slice eo en ec, .slice co cn cc] 49)).heap.size) := zz (Nat.le_trans hB hb.size)
 have HO1 : Hid (Others b w (w.alloc (.cells #[.int .i64 6, .int .i64 at_, .string name, .pointer tq, .pointer vq, .slice no nn nc, .slice eo en ec, .slice co cn cc] 49))) := zz (Others.of_new hb)
 clear h hB hP hV hlen hl0 hb hcat hok
 go_enter Tryz.func97, Tryz.ntmps97
 go_wp2_with fail
 refine HT.out.mono ?_
 rintro e w2 ⟨rfl, hb2⟩
 have HL2 := zz (HL.out w2 hb2)
 have HB2 := zz (HBW.out.trans (hb2.mono HSZ.out))
 have HO2 : Hid (Others b w w2) := zz (HO1.out.trans (Others.of_new hb2))
 clear hb2
 go_wp2_with fail
 refine HL2.out.mono ?_
 rintro e w3 ⟨rfl, h3, hb3, ho3⟩
 have H3 := zz h3
 have HB3 := zz (HB2.out.trans hb3)
 have HO3 := zz (HO2.out.trans ho3)
 clear h3 hb3 ho3
 go_wp2_with fail
 try simp only [Exit.inBlock, Exit.then]
 go_end0
 exact ⟨rfl, H3.out, HB3.out, HO3.out⟩
theorem stmt_go {B b d : Nat} {at_ : Int} {name : ByteArray} {tq vq no eo co : Option Addr} {nn nc en ec cn cc : Nat} {val : Ex} (l : List UInt8) (w : World) (h : PC B b l w) (hB : B <= w.heap.size) (hP : PEnv B w) (hok : ExOk val) (hV : ExIn w (fun k => k < B) (.pointer vq) val) (hlen : l.length + (lineV d (cGo ++ exV 1 val)).length <= 1000000) :
  Writes B b l (lineV d (cGo ++ exV 1 val)) w 97 #[.pointer (some ⟨b, 0, none⟩), .agg #[.int .i64 7, .int .i64 at_, .string name, .pointer tq, .pointer vq, .slice no nn nc, .slice eo en ec, .slice co cn cc], .int .i64 (d : Nat)] := by
 unfold Writes
 have hb := fresh_alloc w #[.int .i64 7, .int .i64 at_, .string name, .pointer tq, .pointer vq, .slice no nn nc, .slice eo en ec, .slice co cn cc] 49
 have hcat : catV [mkT cGo, mkT (exV 1 val)] = cGo ++ exV 1 val := by show cGo ++ (exV 1 val ++ []) = _; rw [List.append_nil]
 have hl0 := hlen
 rw [lineV_len, List.length_append] at hlen
 have HT := zz (text_ex val hok (w.alloc (.cells #[.int .i64 7, .int .i64 at_, .string name, .pointer tq, .pointer vq, .slice no nn nc, .slice eo en ec, .slice co cn cc] 49)) (.pointer vq) (Nat.le_trans hB hb.size) (hP.below (hb.mono hB)) (hV.below (hb.mono hB)) (by omega))
 have HL : Hid (∀ w2, Below (w.alloc (.cells #[.int .i64 7, .int .i64 at_, .string name, .pointer tq, .pointer vq, .slice no nn nc, .slice eo en ec, .slice co cn cc] 49)).heap.size (w.alloc (.cells #[.int .i64 7, .int .i64 at_, .string name, .pointer tq, .pointer vq, .slice no nn nc, .slice eo en ec, .slice co cn cc] 49)) w2 -> Calls Tryz.prog 35 #[.pointer (some ⟨b, 0, none⟩), .int .i64 (d : Nat), .slice (some ⟨w2.heap.size, 0, none⟩) [mkT cGo, mkT (exV 1 val)].length [mkT cGo, mkT (exV 1 val)].length] (w2.alloc (.cells ([mkT cGo, mkT (exV 1 val)].map Value.string).toArray 9)) fun e w' => e = .returned (.tuple #[]) /\ PC B b (l ++ lineV d (cGo ++ exV 1 val)) w' /\ Below B w2 w' /\ Others b w2 w') := zz fun w2 hb2 => by
  have := line_new B b d l [mkT cGo, mkT (exV 1 val)] w2 ((h.fresh hb).fresh hb2) (Nat.le_trans hB (Nat.le_trans hb.size hb2.size)) (by rw [hcat]; exact hl0) (by simp)
  rw [hcat] at this
  exact this
 have HBW := zz (hb.mono hB)
 have HSZ : Hid (B <= (w.alloc (.cells #[.int .i64 7, .int .i64 at_, .string name, .pointer tq, .pointer vq, .slice no nn nc, .slice eo en ec, .slice co cn cc] 49)).heap.size) := zz (Nat.le_trans hB hb.size)
 have HO1 : Hid (Others b w (w.alloc (.cells #[.int .i64 7, .int .i64 at_, .string name, .pointer tq, .pointer vq, .slice no nn nc, .slice eo en ec, .slice co cn cc] 49))) := zz (Others.of_new hb)
 clear h hB hP hV hlen hl0 hb hcat hok
 go_enter Tryz.func97, Tryz.ntmps97
 go_wp2_with fail
 refine HT.out.mono ?_
 rintro e w2 ⟨rfl, hb2⟩
 have HL2 := zz (HL.out w2 hb2)
 have HB2 := zz (HBW.out.trans (hb2.mono HSZ.out))
 have HO2 : Hid (Others b w w2) := zz (HO1.out.trans (Others.of_new hb2))
 clear hb2
 go_wp2_with fail
 refine HL2.out.mono ?_
 rintro e w3 ⟨rfl, h3, hb3, ho3⟩
 have H3 := zz h3
 have HB3 := zz (HB2.out.trans hb3)
 have HO3 := zz (HO2.out.trans ho3)
 clear h3 hb3 ho3
 go_wp2_with fail
 try simp only [Exit.inBlock, Exit.then]
 go_end0
 exact ⟨rfl, H3.out, HB3.out, HO3.out⟩
theorem stmt_do {B b d : Nat} {at_ : Int} {name : ByteArray} {tq vq no eo co : Option Addr} {nn nc en ec cn cc : Nat} {val : Ex} (l : List UInt8) (w : World) (h : PC B b l w) (hB : B <= w.heap.size) (hP : PEnv B w) (hok : ExOk val) (hV : ExIn w (fun k => k < B) (.pointer vq) val) (hlen : l.length + (lineV d (exV 1 val)).length <= 1000000) :
  Writes B b l (lineV d (exV 1 val)) w 97 #[.pointer (some ⟨b, 0, none⟩), .agg #[.int .i64 11, .int .i64 at_, .string name, .pointer tq, .pointer vq, .slice no nn nc, .slice eo en ec, .slice co cn cc], .int .i64 (d : Nat)] := by
 unfold Writes
 have hb := fresh_alloc w #[.int .i64 11, .int .i64 at_, .string name, .pointer tq, .pointer vq, .slice no nn nc, .slice eo en ec, .slice co cn cc] 49
 have hcat : catV [mkT (exV 1 val)] = exV 1 val := by show exV 1 val ++ [] = _; rw [List.append_nil]
 have hl0 := hlen
 rw [lineV_len] at hlen
 have HT := zz (text_ex val hok (w.alloc (.cells #[.int .i64 11, .int .i64 at_, .string name, .pointer tq, .pointer vq, .slice no nn nc, .slice eo en ec, .slice co cn cc] 49)) (.pointer vq) (Nat.le_trans hB hb.size) (hP.below (hb.mono hB)) (hV.below (hb.mono hB)) (by omega))
 have HL : Hid (∀ w2, Below (w.alloc (.cells #[.int .i64 11, .int .i64 at_, .string name, .pointer tq, .pointer vq, .slice no nn nc, .slice eo en ec, .slice co cn cc] 49)).heap.size (w.alloc (.cells #[.int .i64 11, .int .i64 at_, .string name, .pointer tq, .pointer vq, .slice no nn nc, .slice eo en ec, .slice co cn cc] 49)) w2 -> Calls Tryz.prog 35 #[.pointer (some ⟨b, 0, none⟩), .int .i64 (d : Nat), .slice (some ⟨w2.heap.size, 0, none⟩) [mkT (exV 1 val)].length [mkT (exV 1 val)].length] (w2.alloc (.cells ([mkT (exV 1 val)].map Value.string).toArray 9)) fun e w' => e = .returned (.tuple #[]) /\ PC B b (l ++ lineV d (exV 1 val)) w' /\ Below B w2 w' /\ Others b w2 w') := zz fun w2 hb2 => by
  have := line_new B b d l [mkT (exV 1 val)] w2 ((h.fresh hb).fresh hb2) (Nat.le_trans hB (Nat.le_trans hb.size hb2.size)) (by rw [hcat]; exact hl0) (by simp)
  rw [hcat] at this
  exact this
 have HBW := zz (hb.mono hB)
 have HSZ : Hid (B <= (w.alloc (.cells #[.int .i64 11, .int .i64 at_, .string name, .pointer tq, .pointer vq, .slice no nn nc, .slice eo en ec, .slice co cn cc] 49)).heap.size) := zz (Nat.le_trans hB hb.size)
 have HO1 : Hid (Others b w (w.alloc (.cells #[.int .i64 11, .int .i64 at_, .string name, .pointer tq, .pointer vq, .slice no nn nc, .slice eo en ec, .slice co cn cc] 49))) := zz (Others.of_new hb)
 clear h hB hP hV hlen hl0 hb hcat hok
 go_enter Tryz.func97, Tryz.ntmps97
 go_wp2_with fail
 refine HT.out.mono ?_
 rintro e w2 ⟨rfl, hb2⟩
 have HL2 := zz (HL.out w2 hb2)
 have HB2 := zz (HBW.out.trans (hb2.mono HSZ.out))
 have HO2 : Hid (Others b w w2) := zz (HO1.out.trans (Others.of_new hb2))
 clear hb2
 go_wp2_with fail
 refine HL2.out.mono ?_
 rintro e w3 ⟨rfl, h3, hb3, ho3⟩
 have H3 := zz h3
 have HB3 := zz (HB2.out.trans hb3)
 have HO3 := zz (HO2.out.trans ho3)
 clear h3 hb3 ho3
 go_wp2_with fail
 try simp only [Exit.inBlock, Exit.then]
 go_end0
 exact ⟨rfl, H3.out, HB3.out, HO3.out⟩
theorem stmt_send {B b d : Nat} {at_ : Int} {name : ByteArray} {tq vq no eo co : Option Addr} {nn nc en ec cn cc : Nat} {dst val : Ex} (l : List UInt8) (w : World) (h : PC B b l w) (hB : B <= w.heap.size) (hP : PEnv B w) (hokd : ExOk dst) (hok : ExOk val) (hD : ExIn w (fun k => k < B) (.pointer tq) dst) (hV : ExIn w (fun k => k < B) (.pointer vq) val) (hlen : l.length + (lineV d (sentV dst val)).length <= 1000000) :
  Writes B b l (lineV d (sentV dst val)) w 97 #[.pointer (some ⟨b, 0, none⟩), .agg #[.int .i64 3, .int .i64 at_, .string name, .pointer tq, .pointer vq, .slice no nn nc, .slice eo en ec, .slice co cn cc], .int .i64 (d : Nat)] := by
 unfold Writes
 have hb := fresh_alloc w #[.int .i64 3, .int .i64 at_, .string name, .pointer tq, .pointer vq, .slice no nn nc, .slice eo en ec, .slice co cn cc] 49
 have hcat : catV [mkT (sentV dst val)] = sentV dst val := by show sentV dst val ++ [] = _; rw [List.append_nil]
 have hl0 := hlen
 rw [lineV_len] at hlen
 have HT := zz (sent_ex dst val hokd hok (w.alloc (.cells #[.int .i64 3, .int .i64 at_, .string name, .pointer tq, .pointer vq, .slice no nn nc, .slice eo en ec, .slice co cn cc] 49)) (.pointer tq) (.pointer vq) (Nat.le_trans hB hb.size) (hP.below (hb.mono hB)) (hD.below (hb.mono hB)) (hV.below (hb.mono hB)) (by omega))
 have HL : Hid (∀ w2, Below (w.alloc (.cells #[.int .i64 3, .int .i64 at_, .string name, .pointer tq, .pointer vq, .slice no nn nc, .slice eo en ec, .slice co cn cc] 49)).heap.size (w.alloc (.cells #[.int .i64 3, .int .i64 at_, .string name, .pointer tq, .pointer vq, .slice no nn nc, .slice eo en ec, .slice co cn cc] 49)) w2 -> Calls Tryz.prog 35 #[.pointer (some ⟨b, 0, none⟩), .int .i64 (d : Nat), .slice (some ⟨w2.heap.size, 0, none⟩) [mkT (sentV dst val)].length [mkT (sentV dst val)].length] (w2.alloc (.cells ([mkT (sentV dst val)].map Value.string).toArray 9)) fun e w' => e = .returned (.tuple #[]) /\ PC B b (l ++ lineV d (sentV dst val)) w' /\ Below B w2 w' /\ Others b w2 w') := zz fun w2 hb2 => by
  have := line_new B b d l [mkT (sentV dst val)] w2 ((h.fresh hb).fresh hb2) (Nat.le_trans hB (Nat.le_trans hb.size hb2.size)) (by rw [hcat]; exact hl0) (by simp)
  rw [hcat] at this
  exact this
 have HBW := zz (hb.mono hB)
 have HSZ : Hid (B <= (w.alloc (.cells #[.int .i64 3, .int .i64 at_, .string name, .pointer tq, .pointer vq, .slice no nn nc, .slice eo en ec, .slice co cn cc] 49)).heap.size) := zz (Nat.le_trans hB hb.size)
 have HO1 : Hid (Others b w (w.alloc (.cells #[.int .i64 3, .int .i64 at_, .string name, .pointer tq, .pointer vq, .slice no nn nc, .slice eo en ec, .slice co cn cc] 49))) := zz (Others.of_new hb)
 clear h hB hP hV hD hlen hl0 hb hcat hok hokd
 go_enter Tryz.func97, Tryz.ntmps97
 go_wp2_with fail
 refine HT.out.mono ?_
 rintro e w2 ⟨rfl, hb2⟩
 have HL2 := zz (HL.out w2 hb2)
 have HB2 := zz (HBW.out.trans (hb2.mono HSZ.out))
 have HO2 : Hid (Others b w w2) := zz (HO1.out.trans (Others.of_new hb2))
 clear hb2
 go_wp2_with fail
 refine HL2.out.mono ?_
 rintro e w3 ⟨rfl, h3, hb3, ho3⟩
 have H3 := zz h3
 have HB3 := zz (HB2.out.trans hb3)
 have HO3 := zz (HO2.out.trans ho3)
 clear h3 hb3 ho3
 go_wp2_with fail
 try simp only [Exit.inBlock, Exit.then]
 go_end0
 exact ⟨rfl, H3.out, HB3.out, HO3.out⟩
theorem stmt_let {B b d : Nat} {at_ : Int} {tq vq no eo co : Option Addr} {nn nc en ec cn cc : Nat} {name : Lx.B} {val : Ex} (l : List UInt8) (w : World) (h : PC B b l w) (hB : B <= w.heap.size) (hP : PEnv B w) (hok : ExOk val) (hV : ExIn w (fun k => k < B) (.pointer vq) val) (hlen : l.length + (lineV d (name ++ (cLet ++ exV 1 val))).length <= 1000000) :
  Writes B b l (lineV d (name ++ (cLet ++ exV 1 val))) w 97 #[.pointer (some ⟨b, 0, none⟩), .agg #[.int .i64 1, .int .i64 at_, .string (mkT name), .pointer tq, .pointer vq, .slice no nn nc, .slice eo en ec, .slice co cn cc], .int .i64 (d : Nat)] := by
 unfold Writes
 have hbw := fresh_alloc w #[.int .i64 1, .int .i64 at_, .string (mkT name), .pointer tq, .pointer vq, .slice no nn nc, .slice eo en ec, .slice co cn cc] 49
 have hb : Below w.heap.size w (w.alloc (.cells #[.int .i64 1, .int .i64 at_, .string (mkT name), .pointer tq, .pointer vq, .slice no nn nc, .slice eo en ec, .slice co cn cc] 49)).drew := hbw.trans (Below.drew (Below.refl _ _))
 have hcat : catV [mkT name, mkT cLet, mkT (exV 1 val)] = name ++ (cLet ++ exV 1 val) := by show name ++ (cLet ++ (exV 1 val ++ [])) = _; rw [List.append_nil]
 have hl0 := hlen
 rw [lineV_len, List.length_append, List.length_append] at hlen
 have HT := zz (text_ex val hok (w.alloc (.cells #[.int .i64 1, .int .i64 at_, .string (mkT name), .pointer tq, .pointer vq, .slice no nn nc, .slice eo en ec, .slice co cn cc] 49)).drew (.pointer vq) (Nat.le_trans hB hb.size) (hP.below (hb.mono hB)) (hV.below (hb.mono hB)) (by omega))
 have HL : Hid (∀ w2, Below (w.alloc (.cells #[.int .i64 1, .int .i64 at_, .string (mkT name), .pointer tq, .pointer vq, .slice no nn nc, .slice eo en ec, .slice co cn cc] 49)).drew.heap.size (w.alloc (.cells #[.int .i64 1, .int .i64 at_, .string (mkT name), .pointer tq, .pointer vq, .slice no nn nc, .slice eo en ec, .slice co cn cc] 49)).drew w2 -> Calls Tryz.prog 35 #[.pointer (some ⟨b, 0, none⟩), .int .i64 (d : Nat), .slice (some ⟨w2.heap.size, 0, none⟩) [mkT name, mkT cLet, mkT (exV 1 val)].length [mkT name, mkT cLet, mkT (exV 1 val)].length] (w2.alloc (.cells ([mkT name, mkT cLet, mkT (exV 1 val)].map Value.string).toArray 9)) fun e w' => e = .returned (.tuple #[]) /\ PC B b (l ++ lineV d (name ++ (cLet ++ exV 1 val))) w' /\ Below B w2 w' /\ Others b w2 w') := zz fun w2 hb2 => by
  have := line_new B b d l [mkT name, mkT cLet, mkT (exV 1 val)] w2 ((h.fresh hb).fresh hb2) (Nat.le_trans hB (Nat.le_trans hb.size hb2.size)) (by rw [hcat]; exact hl0) (by simp)
  rw [hcat] at this
  exact this
 have hblt := h.1.lt
 have HBW := zz (hb.mono hB)
 have HSZ : Hid (B <= (w.alloc (.cells #[.int .i64 1, .int .i64 at_, .string (mkT name), .pointer tq, .pointer vq, .slice no nn nc, .slice eo en ec, .slice co cn cc] 49)).drew.heap.size) := zz (Nat.le_trans hB hb.size)
 have HO1 : Hid (Others b w (w.alloc (.cells #[.int .i64 1, .int .i64 at_, .string (mkT name), .pointer tq, .pointer vq, .slice no nn nc, .slice eo en ec, .slice co cn cc] 49)).drew) := zz (Others.of_new hb)
 have HLT : Hid (w.heap.size < (w.alloc (.cells #[.int .i64 1, .int .i64 at_, .string (mkT name), .pointer tq, .pointer vq, .slice no nn nc, .slice eo en ec, .slice co cn cc] 49)).drew.heap.size) := zz (by show w.heap.size < (w.alloc (.cells #[.int .i64 1, .int .i64 at_, .string (mkT name), .pointer tq, .pointer vq, .slice no nn nc, .slice eo en ec, .slice co cn cc] 49)).heap.size; rw [alloc_size]; exact Nat.lt_succ_self _)
 have HNE : Hid (w.heap.size ≠ b) := zz (by omega)
 have HH : Hid ((w.alloc (.cells #[.int .i64 1, .int .i64 at_, .string (mkT name), .pointer tq, .pointer vq, .slice no nn nc, .slice eo en ec, .slice co cn cc] 49)).drew.heap[w.heap.size]? = some (Obj.cells #[.int .i64 1, .int .i64 at_, .string (mkT name), .pointer tq, .pointer vq, .slice no nn nc, .slice eo en ec, .slice co cn cc] 49 (0, 0))) := zz (heap_alloc_new w _)
 have HCL : Hid (∀ V : World, V.heap[w.heap.size]? = some (Obj.cells #[.int .i64 1, .int .i64 at_, .string (mkT name), .pointer tq, .pointer vq, .slice no nn nc, .slice eo en ec, .slice co cn cc] 49 (0, 0)) -> V.cell? ⟨w.heap.size, 2, none⟩ = some (.string (mkT name)) /\ V.cell? ⟨w.heap.size, 4, none⟩ = some (.pointer vq)) := zz fun V hV => ⟨by rw [Lib.cell_of_heap hV]; rfl, by rw [Lib.cell_of_heap hV]; rfl⟩
 clear h hB hP hV hlen hl0 hb hbw hcat hok hblt
 go_enter Tryz.func97, Tryz.ntmps97
 go_wp2_with fail
 refine wp_region_held_drew (S := (fun W' : World => W'.cell? ⟨w.heap.size, 2, none⟩ = some (.string (mkT name)) /\ W'.cell? ⟨w.heap.size, 4, none⟩ = some (.pointer vq))) (by kernel_rfl) (HCL.out _ HH.out) (fun hHeld => ?_)
 refine tk 0 10 (.pointer (some ⟨b, 0, none⟩)) rfl (.inl ⟨by rfl, ?_⟩) hHeld ?_
 ·intro W9 hSW; (try dsimp only at hSW); go_simp
 try simp only [Act.put, List.setIfInBounds_toArray, List.set_cons_zero, List.set_cons_succ]
 refine tk 1 11 (.int .i64 (d : Nat)) rfl (.inl ⟨by rfl, ?_⟩) hHeld ?_
 ·intro W9 hSW; (try dsimp only at hSW); go_simp
 try simp only [Act.put, List.setIfInBounds_toArray, List.set_cons_zero, List.set_cons_succ]
 refine tk 2 12 (.pointer (some ⟨w.heap.size, 2, none⟩)) rfl (.inl ⟨by rfl, ?_⟩) hHeld ?_
 ·intro W9 hSW; (try dsimp only at hSW); go_simp
 try simp only [Act.put, List.setIfInBounds_toArray, List.set_cons_zero, List.set_cons_succ]
 refine tk 3 13 (.string (mkT name)) rfl (.inl ⟨by rfl, ?_⟩) hHeld ?_
 ·intro W9 hSW; (try dsimp only at hSW); go_simp
 try simp only [Act.put, List.setIfInBounds_toArray, List.set_cons_zero, List.set_cons_succ]
 refine tk 4 14 (.pointer (some ⟨w.heap.size, 4, none⟩)) rfl (.inl ⟨by rfl, ?_⟩) hHeld ?_
 ·intro W9 hSW; (try dsimp only at hSW); go_simp
 try simp only [Act.put, List.setIfInBounds_toArray, List.set_cons_zero, List.set_cons_succ]
 refine tk 5 15 (.pointer vq) rfl (.inl ⟨by rfl, ?_⟩) hHeld ?_
 ·intro W9 hSW; (try dsimp only at hSW); go_simp
 try simp only [Act.put, List.setIfInBounds_toArray, List.set_cons_zero, List.set_cons_succ]
 refine wpAnyH_ready (rs := [6]) (by kernel_rfl) (by simp) ?_
 refine AllReadyH.cons (o := { dst := some 16, op := _, type := _, pos := _, after := _, guard := _ }) rfl (fun K hK => ?_) AllReadyH.nil
 go_simp
 go_at_call 20
 refine HT.out.mono ?_
 rintro e w2 ⟨rfl, hb2⟩
 have hh2 : w2.heap[w.heap.size]? = some (Obj.cells #[.int .i64 1, .int .i64 at_, .string (mkT name), .pointer tq, .pointer vq, .slice no nn nc, .slice eo en ec, .slice co cn cc] 49 (0, 0)) := by rw [hb2.block _ HLT.out]; exact HH.out
 have HL2 := zz (HL.out w2 hb2)
 have HB2 := zz (HBW.out.trans (hb2.mono HSZ.out))
 have HO2 : Hid (Others b w w2) := zz (HO1.out.trans (Others.of_new hb2))
 have HH2 := zz hh2
 have HLT2 : Hid (w.heap.size < w2.heap.size) := zz (Nat.lt_of_lt_of_le HLT.out hb2.size)
 clear hb2 hh2
 refine hK.out _ _ (HCL.out _ HH2.out) (fun hHeld => ?_)
 clear hK K
 refine wpAnyH_ready (rs := [7]) (by kernel_rfl) (by simp) ?_
 refine AllReadyH.cons (o := { dst := some 17, op := _, type := _, pos := _, after := _, guard := _ }) rfl (fun K hK => ?_) AllReadyH.nil
 go_simp
 refine hK.out _ _ (HCL.out _ (by rw [Below.heap_alloc _ _ _ HLT2.out]; exact HH2.out)) (fun hHeld => ?_)
 clear hK K
 refine wpAnyH_ready (rs := [8]) (by kernel_rfl) (by simp) ?_
 refine AllReadyH.cons (o := { dst := some 18, op := _, type := _, pos := _, after := _, guard := _ }) rfl (fun K hK => ?_) AllReadyH.nil
 go_simp
 go_at_call 35
 refine HL2.out.mono ?_
 rintro e w3 ⟨rfl, h3, hb3, ho3⟩
 have H3 := zz h3
 have HB3 := zz (HB2.out.trans hb3)
 have HO3 := zz (HO2.out.trans ho3)
 have HH3 := zz (ho3.heap HNE.out (by decide) HH2.out)
 clear h3 hb3 ho3
 refine hK.out _ _ (HCL.out _ HH3.out) (fun hHeld => ?_)
 clear hK K
 refine wpAnyH_done (by kernel_rfl) ?_ _
 go_wp2_with fail
 try simp only [Exit.inBlock, Exit.then]
 go_end0
 exact ⟨rfl, H3.out, HB3.out, HO3.out⟩
theorem stmt_set {B b d : Nat} {at_ : Int} {tq vq no eo co : Option Addr} {nn nc en ec cn cc : Nat} {name : Lx.B} {val : Ex} (l : List UInt8) (w : World) (h : PC B b l w) (hB : B <= w.heap.size) (hP : PEnv B w) (hok : ExOk val) (hV : ExIn w (fun k => k < B) (.pointer vq) val) (hlen : l.length + (lineV d (name ++ (cSet ++ exV 1 val))).length <= 1000000) :
  Writes B b l (lineV d (name ++ (cSet ++ exV 1 val))) w 97 #[.pointer (some ⟨b, 0, none⟩), .agg #[.int .i64 2, .int .i64 at_, .string (mkT name), .pointer tq, .pointer vq, .slice no nn nc, .slice eo en ec, .slice co cn cc], .int .i64 (d : Nat)] := by
 unfold Writes
 have hbw := fresh_alloc w #[.int .i64 2, .int .i64 at_, .string (mkT name), .pointer tq, .pointer vq, .slice no nn nc, .slice eo en ec, .slice co cn cc] 49
 have hb : Below w.heap.size w (w.alloc (.cells #[.int .i64 2, .int .i64 at_, .string (mkT name), .pointer tq, .pointer vq, .slice no nn nc, .slice eo en ec, .slice co cn cc] 49)).drew := hbw.trans (Below.drew (Below.refl _ _))
 have hcat : catV [mkT name, mkT cSet, mkT (exV 1 val)] = name ++ (cSet ++ exV 1 val) := by show name ++ (cSet ++ (exV 1 val ++ [])) = _; rw [List.append_nil]
 have hl0 := hlen
 rw [lineV_len, List.length_append, List.length_append] at hlen
 have HT := zz (text_ex val hok (w.alloc (.cells #[.int .i64 2, .int .i64 at_, .string (mkT name), .pointer tq, .pointer vq, .slice no nn nc, .slice eo en ec, .slice co cn cc] 49)).drew (.pointer vq) (Nat.le_trans hB hb.size) (hP.below (hb.mono hB)) (hV.below (hb.mono hB)) (by omega))
 have HL : Hid (∀ w2, Below (w.alloc (.cells #[.int .i64 2, .int .i64 at_, .string (mkT name), .pointer tq, .pointer vq, .slice no nn nc, .slice eo en ec, .slice co cn cc] 49)).drew.heap.size (w.alloc (.cells #[.int .i64 2, .int .i64 at_, .string (mkT name), .pointer tq, .pointer vq, .slice no nn nc, .slice eo en ec, .slice co cn cc] 49)).drew w2 -> Calls Tryz.prog 35 #[.pointer (some ⟨b, 0, none⟩), .int .i64 (d : Nat), .slice (some ⟨w2.heap.size, 0, none⟩) [mkT name, mkT cSet, mkT (exV 1 val)].length [mkT name, mkT cSet, mkT (exV 1 val)].length] (w2.alloc (.cells ([mkT name, mkT cSet, mkT (exV 1 val)].map Value.string).toArray 9)) fun e w' => e = .returned (.tuple #[]) /\ PC B b (l ++ lineV d (name ++ (cSet ++ exV 1 val))) w' /\ Below B w2 w' /\ Others b w2 w') := zz fun w2 hb2 => by
  have := line_new B b d l [mkT name, mkT cSet, mkT (exV 1 val)] w2 ((h.fresh hb).fresh hb2) (Nat.le_trans hB (Nat.le_trans hb.size hb2.size)) (by rw [hcat]; exact hl0) (by simp)
  rw [hcat] at this
  exact this
 have hblt := h.1.lt
 have HBW := zz (hb.mono hB)
 have HSZ : Hid (B <= (w.alloc (.cells #[.int .i64 2, .int .i64 at_, .string (mkT name), .pointer tq, .pointer vq, .slice no nn nc, .slice eo en ec, .slice co cn cc] 49)).drew.heap.size) := zz (Nat.le_trans hB hb.size)
 have HO1 : Hid (Others b w (w.alloc (.cells #[.int .i64 2, .int .i64 at_, .string (mkT name), .pointer tq, .pointer vq, .slice no nn nc, .slice eo en ec, .slice co cn cc] 49)).drew) := zz (Others.of_new hb)
 have HLT : Hid (w.heap.size < (w.alloc (.cells #[.int .i64 2, .int .i64 at_, .string (mkT name), .pointer tq, .pointer vq, .slice no nn nc, .slice eo en ec, .slice co cn cc] 49)).drew.heap.size) := zz (by show w.heap.size < (w.alloc (.cells #[.int .i64 2, .int .i64 at_, .string (mkT name), .pointer tq, .pointer vq, .slice no nn nc, .slice eo en ec, .slice co cn cc] 49)).heap.size; rw [alloc_size]; exact Nat.lt_succ_self _)
 have HNE : Hid (w.heap.size ≠ b) := zz (by omega)
 have HH : Hid ((w.alloc (.cells #[.int .i64 2, .int .i64 at_, .string (mkT name), .pointer tq, .pointer vq, .slice no nn nc, .slice eo en ec, .slice co cn cc] 49)).drew.heap[w.heap.size]? = some (Obj.cells #[.int .i64 2, .int .i64 at_, .string (mkT name), .pointer tq, .pointer vq, .slice no nn nc, .slice eo en ec, .slice co cn cc] 49 (0, 0))) := zz (heap_alloc_new w _)
 have HCL : Hid (∀ V : World, V.heap[w.heap.size]? = some (Obj.cells #[.int .i64 2, .int .i64 at_, .string (mkT name), .pointer tq, .pointer vq, .slice no nn nc, .slice eo en ec, .slice co cn cc] 49 (0, 0)) -> V.cell? ⟨w.heap.size, 2, none⟩ = some (.string (mkT name)) /\ V.cell? ⟨w.heap.size, 4, none⟩ = some (.pointer vq)) := zz fun V hV => ⟨by rw [Lib.cell_of_heap hV]; rfl, by rw [Lib.cell_of_heap hV]; rfl⟩
 clear h hB hP hV hlen hl0 hb hbw hcat hok hblt
 go_enter Tryz.func97, Tryz.ntmps97
 go_wp2_with fail
 refine wp_region_held_drew (S := (fun W' : World => W'.cell? ⟨w.heap.size, 2, none⟩ = some (.string (mkT name)) /\ W'.cell? ⟨w.heap.size, 4, none⟩ = some (.pointer vq))) (by kernel_rfl) (HCL.out _ HH.out) (fun hHeld => ?_)
 refine tk 0 21 (.pointer (some ⟨b, 0, none⟩)) rfl (.inl ⟨by rfl, ?_⟩) hHeld ?_
 ·intro W9 hSW; (try dsimp only at hSW); go_simp
 try simp only [Act.put, List.setIfInBounds_toArray, List.set_cons_zero, List.set_cons_succ]
 refine tk 1 22 (.int .i64 (d : Nat)) rfl (.inl ⟨by rfl, ?_⟩) hHeld ?_
 ·intro W9 hSW; (try dsimp only at hSW); go_simp
 try simp only [Act.put, List.setIfInBounds_toArray, List.set_cons_zero, List.set_cons_succ]
 refine tk 2 23 (.pointer (some ⟨w.heap.size, 2, none⟩)) rfl (.inl ⟨by rfl, ?_⟩) hHeld ?_
 ·intro W9 hSW; (try dsimp only at hSW); go_simp
 try simp only [Act.put, List.setIfInBounds_toArray, List.set_cons_zero, List.set_cons_succ]
 refine tk 3 24 (.string (mkT name)) rfl (.inl ⟨by rfl, ?_⟩) hHeld ?_
 ·intro W9 hSW; (try dsimp only at hSW); go_simp
 try simp only [Act.put, List.setIfInBounds_toArray, List.set_cons_zero, List.set_cons_succ]
 refine tk 4 25 (.pointer (some ⟨w.heap.size, 4, none⟩)) rfl (.inl ⟨by rfl, ?_⟩) hHeld ?_
 ·intro W9 hSW; (try dsimp only at hSW); go_simp
 try simp only [Act.put, List.setIfInBounds_toArray, List.set_cons_zero, List.set_cons_succ]
 refine tk 5 26 (.pointer vq) rfl (.inl ⟨by rfl, ?_⟩) hHeld ?_
 ·intro W9 hSW; (try dsimp only at hSW); go_simp
 try simp only [Act.put, List.setIfInBounds_toArray, List.set_cons_zero, List.set_cons_succ]
 refine wpAnyH_ready (rs := [6]) (by kernel_rfl) (by simp) ?_
 refine AllReadyH.cons (o := { dst := some 27, op := _, type := _, pos := _, after := _, guard := _ }) rfl (fun K hK => ?_) AllReadyH.nil
 go_simp
 go_at_call 20
 refine HT.out.mono ?_
 rintro e w2 ⟨rfl, hb2⟩
 have hh2 : w2.heap[w.heap.size]? = some (Obj.cells #[.int .i64 2, .int .i64 at_, .string (mkT name), .pointer tq, .pointer vq, .slice no nn nc, .slice eo en ec, .slice co cn cc] 49 (0, 0)) := by rw [hb2.block _ HLT.out]; exact HH.out
 have HL2 := zz (HL.out w2 hb2)
 have HB2 := zz (HBW.out.trans (hb2.mono HSZ.out))
 have HO2 : Hid (Others b w w2) := zz (HO1.out.trans (Others.of_new hb2))
 have HH2 := zz hh2
 have HLT2 : Hid (w.heap.size < w2.heap.size) := zz (Nat.lt_of_lt_of_le HLT.out hb2.size)
 clear hb2 hh2
 refine hK.out _ _ (HCL.out _ HH2.out) (fun hHeld => ?_)
 clear hK K
 refine wpAnyH_ready (rs := [7]) (by kernel_rfl) (by simp) ?_
 refine AllReadyH.cons (o := { dst := some 28, op := _, type := _, pos := _, after := _, guard := _ }) rfl (fun K hK => ?_) AllReadyH.nil
 go_simp
 refine hK.out _ _ (HCL.out _ (by rw [Below.heap_alloc _ _ _ HLT2.out]; exact HH2.out)) (fun hHeld => ?_)
 clear hK K
 refine wpAnyH_ready (rs := [8]) (by kernel_rfl) (by simp) ?_
 refine AllReadyH.cons (o := { dst := some 29, op := _, type := _, pos := _, after := _, guard := _ }) rfl (fun K hK => ?_) AllReadyH.nil
 go_simp
 go_at_call 35
 refine HL2.out.mono ?_
 rintro e w3 ⟨rfl, h3, hb3, ho3⟩
 have H3 := zz h3
 have HB3 := zz (HB2.out.trans hb3)
 have HO3 := zz (HO2.out.trans ho3)
 have HH3 := zz (ho3.heap HNE.out (by decide) HH2.out)
 clear h3 hb3 ho3
 refine hK.out _ _ (HCL.out _ HH3.out) (fun hHeld => ?_)
 clear hK K
 refine wpAnyH_done (by kernel_rfl) ?_ _
 go_wp2_with fail
 try simp only [Exit.inBlock, Exit.then]
 go_end0
 exact ⟨rfl, H3.out, HB3.out, HO3.out⟩
theorem give_none {B b d : Nat} {at_ : Int} {tq no eo co : Option Addr} {nn nc en ec cn cc : Nat} {name : ByteArray} (l : List UInt8) (w : World) (h : PC B b l w) (hB : B <= w.heap.size) (hlen : l.length + (lineV d cReturn0).length <= 1000000) :
  Writes B b l (lineV d cReturn0) w 126 #[.pointer (some ⟨b, 0, none⟩), .agg #[.int .i64 8, .int .i64 at_, .string name, .pointer tq, .pointer none, .slice no nn nc, .slice eo en ec, .slice co cn cc], .int .i64 (d : Nat)] := by
 unfold Writes
 have hb := fresh_alloc w #[.int .i64 8, .int .i64 at_, .string name, .pointer tq, .pointer none, .slice no nn nc, .slice eo en ec, .slice co cn cc] 49
 have hcat : catV [mkT cReturn0] = cReturn0 := List.append_nil _
 have HL2 := zz (line_new B b d l [mkT cReturn0] (w.alloc (.cells #[.int .i64 8, .int .i64 at_, .string name, .pointer tq, .pointer none, .slice no nn nc, .slice eo en ec, .slice co cn cc] 49)) (h.fresh hb) (Nat.le_trans hB hb.size) (by rw [hcat]; exact hlen) (by simp))
 rw [hcat, alloc_size w] at HL2
 have HB2 := zz (hb.mono hB)
 have HO2 : Hid (Others b w (w.alloc (.cells #[.int .i64 8, .int .i64 at_, .string name, .pointer tq, .pointer none, .slice no nn nc, .slice eo en ec, .slice co cn cc] 49))) := zz (Others.of_new hb)
 clear h hB hlen hb hcat
 go_enter Tryz.func126, Tryz.ntmps126
 go_wp2_with fail
 refine HL2.out.mono ?_
 rintro e w3 ⟨rfl, h3, hb3, ho3⟩
 have H3 := zz h3
 have HB3 := zz (HB2.out.trans hb3)
 have HO3 := zz (HO2.out.trans ho3)
 clear h3 hb3 ho3
 go_wp2_with fail
 try simp only [Exit.inBlock, Exit.then]
 refine bodyPost_ret (results_none rfl _ _ _) rfl ?_
 exact ⟨rfl, H3.out, HB3.out, HO3.out⟩
theorem give_some {B b d : Nat} {at_ : Int} {tq no eo co : Option Addr} {nn nc en ec cn cc : Nat} {name : ByteArray} {val : Ex} {va : Addr} (l : List UInt8) (w : World) (h : PC B b l w) (hB : B <= w.heap.size) (hP : PEnv B w) (hok : ExOk val) (hV : ExIn w (fun k => k < B) (.pointer (some va)) val) (hlen : l.length + (lineV d (cReturn ++ exV 1 val)).length <= 1000000) :
  Writes B b l (lineV d (cReturn ++ exV 1 val)) w 126 #[.pointer (some ⟨b, 0, none⟩), .agg #[.int .i64 8, .int .i64 at_, .string name, .pointer tq, .pointer (some va), .slice no nn nc, .slice eo en ec, .slice co cn cc], .int .i64 (d : Nat)] := by
 unfold Writes
 have hb := fresh_alloc w #[.int .i64 8, .int .i64 at_, .string name, .pointer tq, .pointer (some va), .slice no nn nc, .slice eo en ec, .slice co cn cc] 49
 have hcat : catV [mkT cReturn, mkT (exV 1 val)] = cReturn ++ exV 1 val := by show cReturn ++ (exV 1 val ++ []) = _; rw [List.append_nil]
 have hl0 := hlen
 rw [lineV_len, List.length_append] at hlen
 have HT := zz (text_ex val hok (w.alloc (.cells #[.int .i64 8, .int .i64 at_, .string name, .pointer tq, .pointer (some va), .slice no nn nc, .slice eo en ec, .slice co cn cc] 49)) (.pointer (some va)) (Nat.le_trans hB hb.size) (hP.below (hb.mono hB)) (hV.below (hb.mono hB)) (by omega))
 have HL : Hid (∀ w2, Below (w.alloc (.cells #[.int .i64 8, .int .i64 at_, .string name, .pointer tq, .pointer (some va), .slice no nn nc, .slice eo en ec, .slice co cn cc] 49)).heap.size (w.alloc (.cells #[.int .i64 8, .int .i64 at_, .string name, .pointer tq, .pointer (some va), .slice no nn nc, .slice eo en ec, .slice co cn cc] 49)) w2 -> Calls Tryz.prog 35 #[.pointer (some ⟨b, 0, none⟩), .int .i64 (d : Nat), .slice (some ⟨w2.heap.size, 0, none⟩) [mkT cReturn, mkT (exV 1 val)].length [mkT cReturn, mkT (exV 1 val)].length] (w2.alloc (.cells ([mkT cReturn, mkT (exV 1 val)].map Value.string).toArray 9)) fun e w' => e = .returned (.tuple #[]) /\ PC B b (l ++ lineV d (cReturn ++ exV 1 val)) w' /\ Below B w2 w' /\ Others b w2 w') := zz fun w2 hb2 => by
  have := line_new B b d l [mkT cReturn, mkT (exV 1 val)] w2 ((h.fresh hb).fresh hb2) (Nat.le_trans hB (Nat.le_trans hb.size hb2.size)) (by rw [hcat]; exact hl0) (by simp)
  rw [hcat] at this
  exact this
 have HBW := zz (hb.mono hB)
 have HSZ : Hid (B <= (w.alloc (.cells #[.int .i64 8, .int .i64 at_, .string name, .pointer tq, .pointer (some va), .slice no nn nc, .slice eo en ec, .slice co cn cc] 49)).heap.size) := zz (Nat.le_trans hB hb.size)
 have HO1 : Hid (Others b w (w.alloc (.cells #[.int .i64 8, .int .i64 at_, .string name, .pointer tq, .pointer (some va), .slice no nn nc, .slice eo en ec, .slice co cn cc] 49))) := zz (Others.of_new hb)
 clear h hB hP hV hlen hl0 hb hcat hok
 go_enter Tryz.func126, Tryz.ntmps126
 go_wp2_with fail
 refine HT.out.mono ?_
 rintro e w2 ⟨rfl, hb2⟩
 have HL2 := zz (HL.out w2 hb2)
 have HB2 := zz (HBW.out.trans (hb2.mono HSZ.out))
 have HO2 : Hid (Others b w w2) := zz (HO1.out.trans (Others.of_new hb2))
 clear hb2
 go_wp2_with fail
 refine HL2.out.mono ?_
 rintro e w3 ⟨rfl, h3, hb3, ho3⟩
 have H3 := zz h3
 have HB3 := zz (HB2.out.trans hb3)
 have HO3 := zz (HO2.out.trans ho3)
 clear h3 hb3 ho3
 go_wp2_with fail
 try simp only [Exit.inBlock, Exit.then]
 go_end0
 exact ⟨rfl, H3.out, HB3.out, HO3.out⟩
theorem give_any {B b d : Nat} {at_ : Int} {tq vq no eo co : Option Addr} {nn nc en ec cn cc : Nat} {name : ByteArray} {val : Ex} (l : List UInt8) (w : World) (h : PC B b l w) (hB : B <= w.heap.size) (hP : PEnv B w) (hok : ExOk val) (hV : ExIn w (fun k => k < B) (.pointer vq) val) (hlen : l.length + (giveV d val).length <= 1000000) :
  Writes B b l (giveV d val) w 126 #[.pointer (some ⟨b, 0, none⟩), .agg #[.int .i64 8, .int .i64 at_, .string name, .pointer tq, .pointer vq, .slice no nn nc, .slice eo en ec, .slice co cn cc], .int .i64 (d : Nat)] := by
 cases val with
 | nil =>
  have e : Value.pointer vq = .pointer none := hV
  injection e with e
  subst e
  exact give_none l w h hB hlen
 | mk =>
  obtain ⟨bk, lv, rv, av, e, h2⟩ := hV
  injection e with e
  subst e
  exact give_some l w h hB hP hok ⟨bk, lv, rv, av, rfl, h2⟩ hlen
theorem stmt_return {B b d : Nat} {at_ : Int} {tq vq no eo co : Option Addr} {nn nc en ec cn cc : Nat} {name : ByteArray} {val : Ex} (l : List UInt8) (w : World) (h : PC B b l w) (hB : B <= w.heap.size) (hP : PEnv B w) (hok : ExOk val) (hV : ExIn w (fun k => k < B) (.pointer vq) val) (hlen : l.length + (giveV d val).length <= 1000000) :
  Writes B b l (giveV d val) w 97 #[.pointer (some ⟨b, 0, none⟩), .agg #[.int .i64 8, .int .i64 at_, .string name, .pointer tq, .pointer vq, .slice no nn nc, .slice eo en ec, .slice co cn cc], .int .i64 (d : Nat)] := by
 unfold Writes
 have hb := fresh_alloc w #[.int .i64 8, .int .i64 at_, .string name, .pointer tq, .pointer vq, .slice no nn nc, .slice eo en ec, .slice co cn cc] 49
 have HG := zz (give_any (at_ := at_) (tq := tq) (no := no) (eo := eo) (co := co) (nn := nn) (nc := nc) (en := en) (ec := ec) (cn := cn) (cc := cc) (name := name) (d := d) l (w.alloc (.cells #[.int .i64 8, .int .i64 at_, .string name, .pointer tq, .pointer vq, .slice no nn nc, .slice eo en ec, .slice co cn cc] 49)) (h.fresh hb) (Nat.le_trans hB hb.size) (hP.below (hb.mono hB)) hok (hV.below (hb.mono hB)) hlen)
 have HB2 := zz (hb.mono hB)
 have HO2 : Hid (Others b w (w.alloc (.cells #[.int .i64 8, .int .i64 at_, .string name, .pointer tq, .pointer vq, .slice no nn nc, .slice eo en ec, .slice co cn cc] 49))) := zz (Others.of_new hb)
 clear h hB hP hV hlen hb hok
 go_enter Tryz.func97, Tryz.ntmps97
 go_wp2_with fail
 refine HG.out.mono ?_
 rintro e w3 ⟨rfl, h3, hb3, ho3⟩
 have H3 := zz h3
 have HB3 := zz (HB2.out.trans hb3)
 have HO3 := zz (HO2.out.trans ho3)
 clear h3 hb3 ho3
 go_wp2_with fail
 try simp only [Exit.inBlock, Exit.then]
 go_end0
 exact ⟨rfl, H3.out, HB3.out, HO3.out⟩
theorem ptalk_send {B : Nat} {at_ : Int} {tq vq no : Option Addr} {nn nc : Nat} {name : Lx.B} {dst val : Ex} (w : World) (hB : B <= w.heap.size) (hP : PEnv B w) (hokd : ExOk dst) (hok : ExOk val) (hD : ExIn w (fun k => k < B) (.pointer tq) dst) (hV : ExIn w (fun k => k < B) (.pointer vq) val) (hlen : (cCase ++ sentV dst val).length <= 1000000) :
  Tells w 152 #[.agg #[.int .i64 3, .int .i64 at_, .string (mkT name), .pointer tq, .pointer vq, .slice no nn nc]] (cCase ++ sentV dst val) := by
 unfold Tells
 have hb := fresh_alloc w #[.int .i64 3, .int .i64 at_, .string (mkT name), .pointer tq, .pointer vq, .slice no nn nc] 153
 rw [List.length_append] at hlen
 have hl : 5 + (sentV dst val).length <= 1000000 := hlen
 have HT := zz (sent_ex dst val hokd hok (w.alloc (.cells #[.int .i64 3, .int .i64 at_, .string (mkT name), .pointer tq, .pointer vq, .slice no nn nc] 153)) (.pointer tq) (.pointer vq) (Nat.le_trans hB hb.size) (hP.below (hb.mono hB)) (hD.below (hb.mono hB)) (hV.below (hb.mono hB)) (by omega))
 have hs1 : ¬ 9223372036854775807 < 5 + (mkT (sentV dst val)).size := by rw [mkT_size]; omega
 have HB := zz hb
 clear hB hP hokd hok hD hV hlen hl hb
 go_enter Tryz.func152, Tryz.ntmps152
 go_wp2_with fail
 refine HT.out.mono ?_
 rintro e w2 ⟨rfl, hb2⟩
 have HB2 := zz (HB.out.trans (hb2.mono HB.out.size))
 clear hb2
 go_wp2_with fail
 try simp only [Exit.inBlock, Exit.then]
 go_ret
 refine ⟨?_, HB2.out⟩
 exact congrArg Ending.returned (congrArg Value.string (mkT_app cCase (sentV dst val)))
theorem ptalk_default {B : Nat} {at_ : Int} {tq vq no : Option Addr} {nn nc : Nat} {name : ByteArray} {code : Nat} (w : World) (h3 : code ≠ 3) (h10 : code ≠ 10) (_ : B = 0) :
  Tells w 152 #[.agg #[.int .i64 (code : Nat), .int .i64 at_, .string name, .pointer tq, .pointer vq, .slice no nn nc]] (cDefault) := by
 unfold Tells
 have hb := fresh_alloc w #[.int .i64 (code : Nat), .int .i64 at_, .string name, .pointer tq, .pointer vq, .slice no nn nc] 153
 have e3 : ((code : Int) == 3) = false := beq_eq_false_iff_ne.2 (by omega)
 have e10 : ((code : Int) == 10) = false := beq_eq_false_iff_ne.2 (by omega)
 have HB := zz hb
 clear hb h3 h10
 go_enter Tryz.func152, Tryz.ntmps152
 go_wp2_with fail
 try simp only [Exit.inBlock, Exit.then]
 go_ret
 exact ⟨rfl, HB.out⟩
theorem ptalk_recv {B : Nat} {at_ : Int} {tq vq no : Option Addr} {nn nc : Nat} {dst : Ex} (w : World) (hB : B <= w.heap.size) (hP : PEnv B w) (hokd : ExOk dst) (hD : ExIn w (fun k => k < B) (.pointer tq) dst) (hlen : (cCaseRecv ++ exV 6 dst).length <= 1000000) :
  Tells w 152 #[.agg #[.int .i64 10, .int .i64 at_, .string (mkT []), .pointer tq, .pointer vq, .slice no nn nc]] (cCaseRecv ++ exV 6 dst) := by
 unfold Tells
 have hb := fresh_alloc w #[.int .i64 10, .int .i64 at_, .string (mkT []), .pointer tq, .pointer vq, .slice no nn nc] 153
 rw [List.length_append] at hlen
 have hl : 7 + (exV 6 dst).length <= 1000000 := hlen
 have HT := zz (written_ex dst hokd 6 (w.alloc (.cells #[.int .i64 10, .int .i64 at_, .string (mkT []), .pointer tq, .pointer vq, .slice no nn nc] 153)) (.pointer tq) (Nat.le_trans hB hb.size) (hP.below (hb.mono hB)) (hD.below (hb.mono hB)) (by omega))
 have hs1 : ¬ 9223372036854775807 < 7 + (mkT (exV 6 dst)).size := by rw [mkT_size]; omega
 have hne : (mkT []).toList.isEmpty = true := by rw [Lib.toList_data]; rfl
 have HB := zz hb
 clear hB hP hokd hD hlen hl hb
 go_enter Tryz.func152, Tryz.ntmps152
 go_wp2_with fail
 refine HT.out.mono ?_
 rintro e w2 ⟨rfl, hb2⟩
 have HB2 := zz (HB.out.trans (hb2.mono HB.out.size))
 clear hb2
 go_wp2_with fail
 try simp only [Exit.inBlock, Exit.then]
 go_ret
 refine ⟨?_, HB2.out⟩
 exact congrArg Ending.returned (congrArg Value.string (mkT_app cCaseRecv (exV 6 dst)))
theorem ptalk_let {B : Nat} {at_ : Int} {tq vq no : Option Addr} {nn nc : Nat} {name : Lx.B} {dst : Ex} (w : World) (hn : name ≠ []) (hB : B <= w.heap.size) (hP : PEnv B w) (hokd : ExOk dst) (hD : ExIn w (fun k => k < B) (.pointer tq) dst) (hlen : (cCase ++ (name ++ (cLetRecv ++ exV 6 dst))).length <= 1000000) :
  Tells w 152 #[.agg #[.int .i64 10, .int .i64 at_, .string (mkT name), .pointer tq, .pointer vq, .slice no nn nc]] (cCase ++ (name ++ (cLetRecv ++ exV 6 dst))) := by
 unfold Tells
 have hb := fresh_alloc w #[.int .i64 10, .int .i64 at_, .string (mkT name), .pointer tq, .pointer vq, .slice no nn nc] 153
 simp only [List.length_append] at hlen
 have hl : 5 + (List.length name + (6 + (exV 6 dst).length)) <= 1000000 := hlen
 have hbd : Below w.heap.size w (w.alloc (.cells #[.int .i64 10, .int .i64 at_, .string (mkT name), .pointer tq, .pointer vq, .slice no nn nc] 153)).drew := hb.trans (Below.drew (Below.refl _ _))
 have HT := zz (written_ex dst hokd 6 (w.alloc (.cells #[.int .i64 10, .int .i64 at_, .string (mkT name), .pointer tq, .pointer vq, .slice no nn nc] 153)).drew (.pointer tq) (Nat.le_trans hB hbd.size) (hP.below (hbd.mono hB)) (hD.below (hbd.mono hB)) (by omega))
 have hs1 : ¬ 9223372036854775807 < 5 + (mkT name).size := by rw [mkT_size]; omega
 have hs2 : ¬ 9223372036854775807 < 5 + (mkT name).size + 6 := by rw [mkT_size]; omega
 have hs3 : ¬ 9223372036854775807 < 5 + (mkT name).size + 6 + (mkT (exV 6 dst)).size := by rw [mkT_size, mkT_size]; omega
 have hne : (mkT name).toList.isEmpty = false := by
  rw [Lib.toList_data]
  cases name with
  | nil => exact absurd rfl hn
  | cons => rfl
 have HB := zz hbd
 have HLT : Hid (w.heap.size < (w.alloc (.cells #[.int .i64 10, .int .i64 at_, .string (mkT name), .pointer tq, .pointer vq, .slice no nn nc] 153)).drew.heap.size) := zz (by show w.heap.size < (w.alloc (.cells #[.int .i64 10, .int .i64 at_, .string (mkT name), .pointer tq, .pointer vq, .slice no nn nc] 153)).heap.size; rw [alloc_size]; exact Nat.lt_succ_self _)
 have HH : Hid ((w.alloc (.cells #[.int .i64 10, .int .i64 at_, .string (mkT name), .pointer tq, .pointer vq, .slice no nn nc] 153)).drew.heap[w.heap.size]? = some (Obj.cells #[.int .i64 10, .int .i64 at_, .string (mkT name), .pointer tq, .pointer vq, .slice no nn nc] 153 (0, 0))) := zz (heap_alloc_new w _)
 have HCL : Hid (∀ V : World, V.heap[w.heap.size]? = some (Obj.cells #[.int .i64 10, .int .i64 at_, .string (mkT name), .pointer tq, .pointer vq, .slice no nn nc] 153 (0, 0)) -> V.cell? ⟨w.heap.size, 2, none⟩ = some (.string (mkT name)) /\ V.cell? ⟨w.heap.size, 3, none⟩ = some (.pointer tq)) := zz fun V hV => ⟨by rw [Lib.cell_of_heap hV]; rfl, by rw [Lib.cell_of_heap hV]; rfl⟩
 clear hB hP hokd hD hlen hl hb hbd hn
 go_enter Tryz.func152, Tryz.ntmps152
 go_wp2_with fail
 refine wp_region_held_drew (S := (fun W' : World => W'.cell? ⟨w.heap.size, 2, none⟩ = some (.string (mkT name)) /\ W'.cell? ⟨w.heap.size, 3, none⟩ = some (.pointer tq))) (by kernel_rfl) (HCL.out _ HH.out) (fun hHeld => ?_)
 refine tk 0 22 (.pointer (some ⟨w.heap.size, 2, none⟩)) rfl (.inl ⟨by rfl, ?_⟩) hHeld ?_
 ·intro W9 hSW; (try dsimp only at hSW); go_simp
 try simp only [Act.put, List.setIfInBounds_toArray, List.set_cons_zero, List.set_cons_succ]
 refine tk 1 23 (.string (mkT name)) rfl (.inl ⟨by rfl, ?_⟩) hHeld ?_
 ·intro W9 hSW; (try dsimp only at hSW); go_simp
 try simp only [Act.put, List.setIfInBounds_toArray, List.set_cons_zero, List.set_cons_succ]
 refine tk 2 24 (.string (⟨#[99, 97, 115, 101, 32]⟩ ++ mkT name)) rfl (.inl ⟨by rfl, ?_⟩) hHeld ?_
 ·intro W9 hSW; (try dsimp only at hSW); go_simp
 try simp only [Act.put, List.setIfInBounds_toArray, List.set_cons_zero, List.set_cons_succ]
 refine tk 3 25 (.string (⟨#[99, 97, 115, 101, 32]⟩ ++ mkT name ++ ⟨#[32, 58, 61, 32, 60, 45]⟩)) rfl (.inl ⟨by rfl, ?_⟩) hHeld ?_
 ·intro W9 hSW; (try dsimp only at hSW); go_simp
 try simp only [Act.put, List.setIfInBounds_toArray, List.set_cons_zero, List.set_cons_succ]
 refine tk 4 26 (.pointer (some ⟨w.heap.size, 3, none⟩)) rfl (.inl ⟨by rfl, ?_⟩) hHeld ?_
 ·intro W9 hSW; (try dsimp only at hSW); go_simp
 try simp only [Act.put, List.setIfInBounds_toArray, List.set_cons_zero, List.set_cons_succ]
 refine tk 5 27 (.pointer tq) rfl (.inl ⟨by rfl, ?_⟩) hHeld ?_
 ·intro W9 hSW; (try dsimp only at hSW); go_simp
 try simp only [Act.put, List.setIfInBounds_toArray, List.set_cons_zero, List.set_cons_succ]
 refine wpAnyH_ready (rs := [6]) (by kernel_rfl) (by simp) ?_
 refine AllReadyH.cons (o := { dst := some 28, op := _, type := _, pos := _, after := _, guard := _ }) rfl (fun K hK => ?_) AllReadyH.nil
 go_simp
 go_at_call 42
 refine HT.out.mono ?_
 rintro e w2 ⟨rfl, hb2⟩
 have hh2 : w2.heap[w.heap.size]? = some (Obj.cells #[.int .i64 10, .int .i64 at_, .string (mkT name), .pointer tq, .pointer vq, .slice no nn nc] 153 (0, 0)) := by rw [hb2.block _ HLT.out]; exact HH.out
 have HB2 := zz (HB.out.trans (hb2.mono HB.out.size))
 have HH2 := zz hh2
 clear hb2 hh2
 refine hK.out _ _ (HCL.out _ HH2.out) (fun hHeld => ?_)
 clear hK K
 refine tk 7 29 (.string (⟨#[99, 97, 115, 101, 32]⟩ ++ mkT name ++ ⟨#[32, 58, 61, 32, 60, 45]⟩ ++ mkT (exV 6 dst))) rfl (.inl ⟨by rfl, ?_⟩) hHeld ?_
 ·intro W9 hSW; (try dsimp only at hSW); go_simp
 try simp only [Act.put, List.setIfInBounds_toArray, List.set_cons_zero, List.set_cons_succ]
 refine tk 8 2 (.string (⟨#[99, 97, 115, 101, 32]⟩ ++ mkT name ++ ⟨#[32, 58, 61, 32, 60, 45]⟩ ++ mkT (exV 6 dst))) rfl (.inl ⟨by rfl, ?_⟩) hHeld ?_
 ·intro W9 hSW; (try dsimp only at hSW); go_simp
 try simp only [Act.put, List.setIfInBounds_toArray, List.set_cons_zero, List.set_cons_succ]
 refine wpAnyH_done (by kernel_rfl) ?_ _
 go_wp2_with fail
 try simp only [Exit.inBlock, Exit.then]
 go_ret
 refine ⟨?_, HB2.out⟩
 refine congrArg Ending.returned (congrArg Value.string ?_)
 show mkT cCase ++ mkT name ++ mkT cLetRecv ++ mkT (exV 6 dst) = _
 rw [mkT_app, mkT_app, mkT_app, List.append_assoc, List.append_assoc]
theorem ptalk_any {B : Nat} {at_ : Int} {tq vq no : Option Addr} {nn nc : Nat} {name : Lx.B} {code : Nat} {dst val : Ex} (w : World) (hB : B <= w.heap.size) (hP : PEnv B w) (hokd : ExOk dst) (hok : ExOk val) (hD : ExIn w (fun k => k < B) (.pointer tq) dst) (hV : ExIn w (fun k => k < B) (.pointer vq) val) (hlen : (talkV code name dst val).length <= 1000000) :
  Tells w 152 #[.agg #[.int .i64 (code : Nat), .int .i64 at_, .string (mkT name), .pointer tq, .pointer vq, .slice no nn nc]] (talkV code name dst val) := by
 by_cases h3 : code = 3
 ·subst h3
  exact ptalk_send w hB hP hokd hok hD hV hlen
 ·by_cases h10 : code = 10
  ·subst h10
   by_cases hn : name = []
   ·subst hn
    exact ptalk_recv w hB hP hokd hD hlen
   ·have e : talkV 10 name dst val = cCase ++ (name ++ (cLetRecv ++ exV 6 dst)) := by show (if name = [] then _ else _) = _; rw [if_neg hn]
    rw [e] at hlen ⊢
    exact ptalk_let w hn hB hP hokd hD hlen
  ·have e : talkV code name dst val = cDefault := by unfold talkV; rw [if_neg h3, if_neg h10]
   rw [e]
   exact ptalk_default (B := 0) w h3 h10 rfl
def Tr.Sts.toList : Sts -> List St
 | .nil => []
 | .cons x xs => x :: xs.toList
theorem sts_len : ∀ xs : Sts, xs.toList.length = xs.len
 | .nil => rfl
 | .cons _ xs => congrArg (· + 1) (sts_len xs)
def stsL (d : Nat) : List St -> Lx.B
 | [] => []
 | x :: xs => stV d x ++ stsL d xs
theorem stsV_list (d : Nat) : ∀ xs : Sts, stsV d xs = stsL d xs.toList
 | .nil => by rw [stsV]; rfl
 | .cons x xs => by rw [stsV, stsV_list d xs]; rfl
theorem stsL_snoc (d : Nat) : ∀ (l : List St) (x : St), stsL d (l ++ [x]) = stsL d l ++ stV d x
 | [], x => by show stV d x ++ [] = [] ++ stV d x; rw [List.append_nil, List.nil_append]
 | y :: l, x => by show stV d y ++ stsL d (l ++ [x]) = _; rw [stsL_snoc d l x, <- List.append_assoc]; rfl
theorem stsL_le (d : Nat) : ∀ (l : List St) (k : Nat), (stsL d (l.take k)).length <= (stsL d l).length
 | [], k => by simp [stsL]
 | x :: xs, 0 => Nat.zero_le _
 | x :: xs, k + 1 => by
  show (stV d x ++ stsL d (xs.take k)).length <= (stV d x ++ stsL d xs).length
  have := stsL_le d xs k
  simp only [List.length_append]
  omega
theorem stsIn_at {F : Nat -> Prop} {g : Nat} : ∀ (xs : Sts) (i : Nat), StsIn w F g i xs -> ∀ (j : Nat) (x : St), xs.toList[j]? = some x -> StIn w F g ((i + j) * 8) x
 | .nil, _, _, j, x, h => by simp [Tr.Sts.toList] at h
 | .cons y ys, i, ⟨h1, _⟩, 0, x, h => by
  have e : y = x := by simpa [Tr.Sts.toList] using h
  subst e
  exact h1
 | .cons y ys, i, ⟨_, h2⟩, j + 1, x, h => by
  have := stsIn_at ys (i + 1) h2 j x (by simpa [Tr.Sts.toList] using h)
  rw [show i + (j + 1) = i + 1 + j by omega]; exact this
theorem slAt_form {F : Nat -> Prop} {v : Value} {n : Nat} (h : SlAt F v n) : ∃ o m c, v = .slice o m c := by
 rcases h with ⟨e, _⟩ | ⟨g, cap, e, _⟩ <;> exact ⟨_, _, _, e⟩
theorem StV.below {B : Nat} {tv vv nv ev cv : Value} {dst val : Ex} {thn els : Sts} {cases : Cas} (h : StV w (fun k => k < B) tv vv nv ev cv dst val thn els cases) (hb : Below B w w') : StV w' (fun k => k < B) tv vv nv ev cv dst val thn els cases := by
 have hk : Keeps (fun k => B <= k) w w' := Keeps.of_below (S := fun k => B <= k) hb (fun _ _ e => e)
 have hF : ∀ b, b < B -> ¬ B <= b := fun b h1 h2 => by omega
 obtain ⟨h1, h2, h3, h4, h5, h6, h7, h8⟩ := h
 exact ⟨h1.keeps hk hF, h2.keeps hk hF, h3, fun g n cap e => StsIn.keeps hk hF g (h3.mem e) 0 thn (h4 g n cap e), h5, fun g n cap e => StsIn.keeps hk hF g (h5.mem e) 0 els (h6 g n cap e), h7, fun g n cap e => CasIn.keeps hk hF g (h7.mem e) 0 cases (h8 g n cap e)⟩
def StW (B b : Nat) : St -> Prop
  | .mk code at_ name dst val thn els cases => ∀ (l : List UInt8) (w : World) (d : Nat) (tq vq no eo co : Option Addr) (nn nc en ec cn cc : Nat), PC B b l w -> B <= w.heap.size -> PEnv B w ->
      StV w (fun k => k < B) (.pointer tq) (.pointer vq) (.slice no nn nc) (.slice eo en ec) (.slice co cn cc) dst val thn els cases -> l.length + (stV d (.mk code at_ name dst val thn els cases)).length <= 1000000 ->
      Writes B b l (stV d (.mk code at_ name dst val thn els cases)) w 97 #[.pointer (some ⟨b, 0, none⟩), .agg #[.int .i64 (code : Nat), .int .i64 (at_ : Nat), .string (mkT name), .pointer tq, .pointer vq, .slice no nn nc, .slice eo en ec, .slice co cn cc], .int .i64 (d : Nat)]
def StsW (B b : Nat) (xs : Sts) : Prop := ∀ (l : List UInt8) (w : World) (d : Nat) (o : Option Addr) (n c : Nat), PC B b l w -> B <= w.heap.size -> PEnv B w -> SlAt (fun k => k < B) (.slice o n c) xs.len -> (∀ g n' cap, Value.slice o n c = .slice (some ⟨g, 0, none⟩) n' cap -> StsIn w (fun k => k < B) g 0 xs) -> l.length + (stsV d xs).length <= 1000000 ->
   Writes B b l (stsV d xs) w 67 #[.pointer (some ⟨b, 0, none⟩), .slice o n c, .int .i64 (d : Nat)]
theorem stmts_any {B b : Nat} (xs : Sts) (hA : ∀ x ∈ xs.toList, StW B b x) : StsW B b xs := by
 intro l w d o n c h hB hP hs hi hlen
 unfold Writes
 rw [stsV_list] at hlen ⊢
 have hn : n = xs.toList.length := by
  rw [sts_len]
  rcases hs with ⟨e, e2⟩ | ⟨g, cap, e, _⟩
  ·rw [e2]; injection e
  ·injection e
 subst hn
 have hn0 : xs.toList.length <= 9223372036854775807 := by
  rw [sts_len]
  rcases hs with ⟨_, e2⟩ | ⟨g, cap, _, h1, h2, _⟩
  ·omega
  ·unfold maxLen at h2; omega
 have HA := zz hA
 have HH := zz h
 have HB := zz hB
 have HP := zz hP
 have HLN := zz hlen
 have HG : Hid (∀ k x, xs.toList[k]? = some x -> ∃ g, o = some ⟨g, 0, none⟩ /\ g < B /\ StIn w (fun k => k < B) g (k * 8) x) := zz fun k x hx => by
  rcases hs with ⟨e, e2⟩ | ⟨g, cap, e, _, _, _, hg⟩
  ·rw [<- sts_len] at e2
   have := List.getElem?_eq_none (l := xs.toList) (i := k) (by omega)
   rw [this] at hx; cases hx
  ·have hst := hi g _ _ e
   injection e with e1 _ _
   refine ⟨g, e1, hg, ?_⟩
   have := stsIn_at xs 0 hst k x hx
   rw [Nat.zero_add] at this; exact this
 clear hA h hB hP hs hi hlen
 go_enter Tryz.func67, Tryz.ntmps67
 go_wp2_with fail
 go_loopw [10, 7] (fun i _ wr => ∃ k : Nat, k <= xs.toList.length /\ i = .int .i64 k /\ PC B b (l ++ stsL d (xs.toList.take k)) wr /\ Below B w wr /\ Others b w wr) (fun i _ _ => xs.toList.length - (intOf i).toNat)
 case atStart => exact ⟨0, Nat.zero_le _, rfl, by rw [List.take_zero]; show PC B b (l ++ []) w; rw [List.append_nil]; exact HH.out, Below.refl _ _, Others.refl _ _⟩
 case round =>
  obtain ⟨k, hk, rfl, hp, hb, ho⟩ := hrel
  have HPP := zz hp
  have HBL := zz hb
  have HO := zz ho
  clear hp hb ho
  by_cases hlt : k < xs.toList.length
  ·obtain ⟨x, hkx⟩ : ∃ x, xs.toList[k]? = some x := ⟨_, List.getElem?_eq_getElem hlt⟩
   obtain ⟨g, rfl, hg, hst⟩ := HG.out k x hkx
   have hmem : x ∈ xs.toList := List.mem_of_getElem? hkx
   have htk : stsL d (xs.toList.take (k + 1)) = stsL d (xs.toList.take k) ++ stV d x := by rw [List.take_add_one, hkx]; exact stsL_snoc d _ x
   have hle := stsL_le d xs.toList (k + 1)
   rw [htk, List.length_append] at hle
   have HW := zz (HA.out x hmem)
   obtain ⟨code, at_, name, dst, val, thn, els, cases⟩ := x
   obtain ⟨tv, vv, nv, ev, cv, c0, c1, c2, c3, c4, c5, c6, c7, hv⟩ := hst
   obtain ⟨tq, rfl⟩ := exIn_ptr hv.1
   obtain ⟨vq, rfl⟩ := exIn_ptr hv.2.1
   obtain ⟨no, nn, nc, rfl⟩ := slAt_form hv.2.2.1
   obtain ⟨eo, en, ec, rfl⟩ := slAt_form hv.2.2.2.2.1
   obtain ⟨co, cn, cc, rfl⟩ := slAt_form hv.2.2.2.2.2.2.1
   rw [<- HBL.out.cell (p := ⟨g, k * 8, none⟩) hg] at c0
   rw [<- HBL.out.cell (p := ⟨g, k * 8 + 1, none⟩) hg] at c1
   rw [<- HBL.out.cell (p := ⟨g, k * 8 + 2, none⟩) hg] at c2
   rw [<- HBL.out.cell (p := ⟨g, k * 8 + 3, none⟩) hg] at c3
   rw [<- HBL.out.cell (p := ⟨g, k * 8 + 4, none⟩) hg] at c4
   rw [<- HBL.out.cell (p := ⟨g, k * 8 + 5, none⟩) hg] at c5
   rw [<- HBL.out.cell (p := ⟨g, k * 8 + 6, none⟩) hg] at c6
   rw [<- HBL.out.cell (p := ⟨g, k * 8 + 7, none⟩) hg] at c7
   have hki : (k : Int) < (xs.toList.length : Int) := by omega
   have hkii : (0 : Int) <= (k : Int) /\ (k : Int) < (xs.toList.length : Int) := by omega
   have hw : IntKind.i64.wrap ((k : Int) + 1) = (k : Int) + 1 := IntWalk.i64_in _ (by omega)
   have HTK := zz htk
   have HC : Hid (∀ W, Below wr.heap.size wr W -> Writes B b (l ++ stsL d (xs.toList.take k)) (stV d (.mk code at_ name dst val thn els cases)) W 97 #[.pointer (some ⟨b, 0, none⟩), .agg #[.int .i64 (code : Nat), .int .i64 (at_ : Nat), .string (mkT name), .pointer tq, .pointer vq, .slice no nn nc, .slice eo en ec, .slice co cn cc], .int .i64 (d : Nat)]) := zz fun W hW =>
    HW.out _ W d tq vq no eo co nn nc en ec cn cc (HPP.out.fresh hW) (Nat.le_trans HB.out (Nat.le_trans HBL.out.size hW.size)) (HP.out.below (HBL.out.trans (hW.mono (Nat.le_trans HB.out HBL.out.size)))) (StV.below hv (HBL.out.trans (hW.mono (Nat.le_trans HB.out HBL.out.size)))) (by have := HLN.out; rw [List.length_append]; omega)
   have HSZ : Hid (B <= wr.heap.size) := zz (Nat.le_trans HB.out HBL.out.size)
   clear hkx hg hmem htk hle hv
   go_wp2_with fail
   refine (HC.out _ (fresh_alloc _ _ _)).mono ?_
   rintro e w2 ⟨rfl, h2, hb2, ho2⟩
   have H2 : Hid (PC B b (l ++ stsL d (xs.toList.take (k + 1))) w2) := zz (by rw [HTK.out, <- List.append_assoc]; exact h2)
   have HB2 := zz (HBL.out.trans (((fresh_alloc wr _ _).mono HSZ.out).trans hb2))
   have HO2 := zz (HO.out.trans ((Others.of_new (fresh_alloc wr _ _)).trans ho2))
   clear h2 hb2 ho2
   go_wp2_with fail
   exact ⟨⟨k + 1, by omega, by simp, H2.out, HB2.out, HO2.out⟩, by simp [intOf]; omega⟩
  ·have hki : ¬ (k : Int) < (xs.toList.length : Int) := by omega
   have hkk : k = xs.toList.length := by omega
   have HKK := zz hkk
   clear hkk
   go_wp2_with fail
   go_end0
   refine ⟨rfl, ?_, HBL.out, HO.out⟩
   have h1 := HPP.out
   rw [HKK.out, List.take_length] at h1
   exact h1
end Go.Proofs.YtjejcajnnbilmaaGreatDoor
