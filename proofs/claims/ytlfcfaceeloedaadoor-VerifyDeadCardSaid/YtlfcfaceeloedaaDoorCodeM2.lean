/-
  The plain mathematics of chapter 14: what is written is read, and just one text is. No walk.
-/
import Derived.Test.YtlfcfaceeloedaaDoorCodeM
namespace Go.Proofs.YtlfcfaceeloedaaDoor
namespace Cd
variable {s : List Nat} {r : Rd}

/-! Where a reader stands. -/
theorem wrong_at (e : Nat) : (r.wrong e).at_ = r.at_ := rfl
theorem wrong_err {e : Nat} (he : e ≠ 0) : (r.wrong e).err ≠ 0 := by unfold Rd.wrong; dsimp only; split <;> omega
theorem rdCount_le {most : Nat} (h : r.at_ ≤ s.length) : (rdCount s most r).2.at_ ≤ s.length := by
  unfold rdCount
  split
  · exact h
  · rename_i n hn
    split
    · exact h
    · split
      · have := (rd_some hn).len.2.1
        rw [List.length_drop] at this
        show r.at_ + _ ≤ _
        omega
      · exact h
theorem rdNumber_le (h : r.at_ ≤ s.length) : (rdNumber s r).2.at_ ≤ s.length := by
  unfold rdNumber
  split
  · exact h
  · rename_i n hn
    split
    · have := (rd_some hn).len.2.1
      rw [List.length_drop] at this
      show r.at_ + _ ≤ _
      omega
    · exact h
theorem rdByte_le (h : r.at_ ≤ s.length) : (rdByte s r).2.at_ ≤ s.length := by
  unfold rdByte
  split
  · exact h
  · split
    · show r.at_ + 1 ≤ _
      omega
    · exact h
theorem rdIns_le (h : r.at_ ≤ s.length) : (rdIns s r).2.at_ ≤ s.length := by
  unfold rdIns
  split
  · exact rdNumber_le (rdByte_le h)
  · exact rdByte_le h
theorem rdBytes_le : ∀ (n : Nat) (r : Rd), r.at_ ≤ s.length → (rdBytes s n r).2.at_ ≤ s.length
  | 0, _, h => h
  | n + 1, _, h => rdBytes_le n _ (rdByte_le h)
theorem rdInss_le : ∀ (n : Nat) (r : Rd), r.at_ ≤ s.length → (rdInss s n r).2.at_ ≤ s.length
  | 0, _, h => h
  | n + 1, _, h => rdInss_le n _ (rdIns_le h)
theorem rdByte_lt (hs : Crc.Bytes s) : (rdByte s r).1 < 256 := by
  unfold rdByte
  split
  · show (0 : Nat) < 256
    decide
  · split
    · show s.getD _ _ < 256
      rw [List.getD_eq_getElem?_getD]
      cases h : s[r.at_]? with
      | none => show (0 : Nat) < 256; decide
      | some b => exact hs b (List.mem_of_getElem? h)
    · show (0 : Nat) < 256
      decide
theorem rdCount_most {most : Nat} : (rdCount s most r).1 ≤ most := by
  unfold rdCount
  split
  · exact Nat.zero_le _
  · split
    · exact Nat.zero_le _
    · split
      · show _ ≤ _
        omega
      · exact Nat.zero_le _
theorem rdBytes_snoc : ∀ (n : Nat) (r : Rd), rdBytes s (n + 1) r = ((rdBytes s n r).1 ++ [((rdByte s (rdBytes s n r).2).1 : Int)], (rdByte s (rdBytes s n r).2).2)
  | 0, _ => rfl
  | n + 1, r => by
    rw [rdBytes, rdBytes_snoc n]
    rfl
theorem rdInss_snoc : ∀ (n : Nat) (r : Rd), rdInss s (n + 1) r = ((rdInss s n r).1 ++ [(rdIns s (rdInss s n r).2).1], (rdIns s (rdInss s n r).2).2)
  | 0, _ => rfl
  | n + 1, r => by
    rw [rdInss, rdInss_snoc n]
    rfl
theorem rdBytes_len : ∀ (n : Nat) (r : Rd), (rdBytes s n r).1.length = n
  | 0, _ => rfl
  | n + 1, r => by rw [rdBytes, List.length_cons, rdBytes_len n]
theorem rdInss_len : ∀ (n : Nat) (r : Rd), (rdInss s n r).1.length = n
  | 0, _ => rfl
  | n + 1, r => by rw [rdInss, List.length_cons, rdInss_len n]

/-! The way there: what was written is read. -/
/-- From where these bytes stand the reader goes behind them. -/
def St (s : List Nat) (r : Rd) (t : List Nat) : Prop := r.err = 0 ∧ r.at_ ≤ s.length ∧ s.drop r.at_ = t
theorem st_drop {s : List Nat} {a : Nat} {x t : List Nat} (h : s.drop a = x ++ t) : s.drop (a + x.length) = t := by
  rw [← List.drop_drop, h, List.drop_left]
theorem st_le {s : List Nat} {a : Nat} {x t : List Nat} (h : s.drop a = x ++ t) (ha : a ≤ s.length) : a + x.length ≤ s.length := by
  have := congrArg List.length h
  rw [List.length_drop, List.length_append] at this
  omega
theorem rdCount_st {n most : Nat} {t : List Nat} (hn : n < 2 ^ 64) (hm : n ≤ most) (h : St s r (Vy.enc n ++ t)) : (rdCount s most r).1 = n ∧ St s (rdCount s most r).2 t := by
  unfold rdCount
  rw [h.2.2, rd_enc hn]
  dsimp only
  rw [if_neg (by omega), if_pos h.1]
  exact ⟨rfl, rfl, st_le h.2.2 h.2.1, st_drop h.2.2⟩
theorem rdNumber_st {n : Int} {t : List Nat} (h1 : -9223372036854775808 ≤ n) (h2 : n ≤ 9223372036854775807) (h : St s r (Vy.enc (zz n) ++ t)) : (rdNumber s r).1 = n ∧ St s (rdNumber s r).2 t := by
  unfold rdNumber
  rw [h.2.2, rd_enc (zz_lt n h1 h2)]
  dsimp only
  rw [if_pos h.1]
  exact ⟨uz_zz n, rfl, st_le h.2.2 h.2.1, st_drop h.2.2⟩
theorem rdByte_st {b : Nat} {t : List Nat} (h : St s r (b :: t)) : (rdByte s r).1 = b ∧ St s (rdByte s r).2 t := by
  have hl : r.at_ < s.length := by
    have := congrArg List.length h.2.2
    rw [List.length_drop, List.length_cons] at this
    omega
  unfold rdByte
  rw [if_neg (by omega), if_pos h.1]
  have hd := h.2.2
  rw [List.drop_eq_getElem_cons hl] at hd
  refine ⟨?_, rfl, hl, (List.cons.inj hd).2⟩
  show s.getD _ _ = _
  rw [List.getD_eq_getElem?_getD, List.getElem?_eq_getElem hl, ← (List.cons.inj hd).1]
  rfl
theorem rdIns_st {i : In} {t : List Nat} (hi : mayB i = true) (h : St s r (insL i ++ t)) : (rdIns s r).1 = i ∧ St s (rdIns s r).2 t := by
  obtain ⟨o1, o2⟩ := mayB_op hi
  obtain ⟨n1, n2⟩ := mayB_n hi
  have hc : St s r (i.1.toNat :: ((if hasN i.1 then Vy.enc (zz i.2) else []) ++ t)) := h
  obtain ⟨e1, h1⟩ := rdByte_st hc
  have e2 : (((rdByte s r).1 : Nat) : Int) = i.1 := by rw [e1]; omega
  unfold rdIns
  rw [e2]
  cases hn : hasN i.1 with
  | true =>
    rw [hn, if_pos rfl] at h1
    rw [if_pos rfl]
    obtain ⟨e3, h3⟩ := rdNumber_st n1 n2 h1
    exact ⟨by show (_, _) = i; rw [e3], h3⟩
  | false =>
    rw [hn, if_neg (by decide)] at h1
    rw [if_neg (by decide)]
    exact ⟨by show (_, _) = i; rw [← mayB_zero hi hn], h1⟩
theorem rdBytes_st : ∀ (l : List Int) (r : Rd) (t : List Nat), (∀ k ∈ l, 0 ≤ k) → St s r (kindsL l ++ t) → (rdBytes s l.length r).1 = l ∧ St s (rdBytes s l.length r).2 t
  | [], _, _, _, h => ⟨rfl, h⟩
  | k :: l, r, t, hk, h => by
    obtain ⟨e1, h1⟩ := rdByte_st (b := k.toNat) (t := kindsL l ++ t) h
    obtain ⟨e2, h2⟩ := rdBytes_st l _ t (fun x hx => hk x (List.mem_cons_of_mem _ hx)) h1
    refine ⟨?_, h2⟩
    show (_ :: _) = _
    rw [e2, e1]
    have := hk k List.mem_cons_self
    rw [Int.toNat_of_nonneg this]
theorem rdInss_st : ∀ (l : List In) (r : Rd) (t : List Nat), (∀ i ∈ l, mayB i = true) → St s r (l.flatMap insL ++ t) → (rdInss s l.length r).1 = l ∧ St s (rdInss s l.length r).2 t
  | [], _, _, _, h => ⟨rfl, h⟩
  | i :: l, r, t, hk, h => by
    rw [List.flatMap_cons, List.append_assoc] at h
    obtain ⟨e1, h1⟩ := rdIns_st (hk i List.mem_cons_self) h
    obtain ⟨e2, h2⟩ := rdInss_st l _ t (fun x hx => hk x (List.mem_cons_of_mem _ hx)) h1
    refine ⟨?_, h2⟩
    show (_ :: _) = _
    rw [e2, e1]
theorem rdEnd_st (h : St s r []) : rdEnd s r = 0 := by
  unfold rdEnd
  have := congrArg List.length h.2.2
  rw [List.length_drop] at this
  have h2 := h.2.1
  rw [if_pos (by simp at this; omega)]
  exact h.1
theorem fnR_nat {f : FnV} (h : FnR f) : f.params.toNat ≤ 12 ∧ (f.params.toNat : Int) = f.params ∧ (f.kind.toNat : Int) = f.kind := by
  have h1 := h.params0
  have h2 := h.params
  have h3 := h.locals
  have h4 := h.kind0
  exact ⟨by omega, by omega, by omega⟩
theorem fn_back {f : FnV} (h : FnR f) (hs : s = fnL f) : rdFnV s = f ∧ rdFnE s = 0 := by
  obtain ⟨p1, p2, p3⟩ := fnR_nat h
  have hl := h.locals
  have hc := h.code
  have g0 : St s ⟨0, 0⟩ (Vy.enc f.params.toNat ++ (Vy.enc f.locals.length ++ (kindsL f.locals ++ (f.kind.toNat :: (Vy.enc f.code.length ++ (f.code.flatMap insL ++ [])))))) :=
    ⟨rfl, Nat.zero_le _, by rw [hs]; unfold fnL; simp⟩
  obtain ⟨a1, b1⟩ := rdCount_st (most := 12) (by omega) p1 g0
  obtain ⟨a2, b2⟩ := rdCount_st (most := 12) (by omega) hl b1
  have b2' : St s (rdFn2 s).2 _ := b2
  obtain ⟨a3, b3⟩ := rdBytes_st f.locals (rdFn2 s).2 _ (fun k hk => by have := h.kinds k hk; omega) b2'
  have e2 : (rdFn2 s).1 = f.locals.length := a2
  have e3 : rdFn3 s = rdBytes s f.locals.length (rdFn2 s).2 := by unfold rdFn3; rw [e2]
  rw [← e3] at a3 b3
  obtain ⟨a4, b4⟩ := rdByte_st b3
  obtain ⟨a5, b5⟩ := rdCount_st (most := 9000) (by omega) hc b4
  have b5' : St s (rdFn5 s).2 _ := b5
  obtain ⟨a6, b6⟩ := rdInss_st f.code (rdFn5 s).2 _ h.ins b5'
  have e5 : (rdFn5 s).1 = f.code.length := a5
  have e6 : rdFn6 s = rdInss s f.code.length (rdFn5 s).2 := by unfold rdFn6; rw [e5]
  rw [← e6] at a6 b6
  refine ⟨?_, rdEnd_st b6⟩
  have f1 : (rdFn1 s).1 = f.params.toNat := a1
  have f4 : (rdFn4 s).1 = f.kind.toNat := a4
  unfold rdFnV
  rw [f1, f4, a3, a6, p2, p3]
theorem enc_params_bytes (n : Nat) : Crc.Bytes (Vy.enc n) := fun b hb => Vy.enc_bytes n b hb
theorem insL_bytes {i : In} (h : mayB i = true) : Crc.Bytes (insL i) := fun b hb => by
  obtain ⟨o1, o2⟩ := mayB_op h
  unfold insL at hb
  rcases List.mem_cons.1 hb with rfl | hb
  · omega
  · split at hb
    · exact Vy.enc_bytes _ b hb
    · cases hb
theorem fnL_bytes {f : FnV} (h : FnR f) : Crc.Bytes (fnL f) := fun b hb => by
  have h1 := h.kind
  have h2 := h.kind0
  unfold fnL at hb
  rcases List.mem_append.1 hb with hb | hb
  · rcases List.mem_append.1 hb with hb | hb
    · rcases List.mem_append.1 hb with hb | hb
      · rcases List.mem_append.1 hb with hb | hb
        · rcases List.mem_append.1 hb with hb | hb
          · exact Vy.enc_bytes _ b hb
          · exact Vy.enc_bytes _ b hb
        · obtain ⟨k, hk, rfl⟩ := List.mem_map.1 hb
          have := h.kinds k hk
          omega
      · rw [List.mem_singleton.1 hb]; omega
    · exact Vy.enc_bytes _ b hb
  · obtain ⟨i, hi, hb⟩ := List.mem_flatMap.1 hb
    exact insL_bytes (h.ins i hi) b hb
theorem fns_back : ∀ (l : List FnV) (k : Nat), (∀ f ∈ l, FnR f) → k + l.length ≤ 150 → rdFns k (fnParts k l) = (l, 0)
  | [], _, _, _ => rfl
  | f :: l, k, h, hk => by
    rw [List.length_cons] at hk
    obtain ⟨e1, e2⟩ := fn_back (s := bs (txt (fnL f))) (h f List.mem_cons_self) (bs_txt _ (fnL_bytes (h f List.mem_cons_self)))
    have ih := fns_back l (k + 1) (fun x hx => h x (List.mem_cons_of_mem _ hx)) (by omega)
    unfold fnParts rdFns
    dsimp only
    rw [if_pos (by omega), e1, e2, if_pos rfl, ih]
theorem head_back {n : Nat} (h : n ≤ 8) : rdHead (bs (txt (Vy.enc n))) = (n, 0) := by
  have g0 : St (bs (txt (Vy.enc n))) ⟨0, 0⟩ (Vy.enc n ++ []) := ⟨rfl, Nat.zero_le _, by rw [bs_txt _ (enc_params_bytes n)]; simp⟩
  obtain ⟨a1, b1⟩ := rdCount_st (most := 8) (by omega) h g0
  unfold rdHead
  rw [rdEnd_st b1, a1]
theorem parts_len : ∀ (l : List FnV) (k : Nat), (fnParts k l).length = l.length
  | [], _ => rfl
  | _ :: l, k => by unfold fnParts; rw [List.length_cons, List.length_cons, parts_len l]
theorem dec_back {p : Pg} (h : PgR p) : decE 0 80 (partsC p) = 0 ∧ decV 0 80 (partsC p) = p := by
  have h1 := h.globals0
  have h2 := h.globals
  have h3 := h.fns
  have e1 : rdHead (bs (97, txt (Vy.enc p.globals.toNat)).2) = (p.globals.toNat, 0) := head_back (by omega)
  have e2 : rdParts (97, txt (Vy.enc p.globals.toNat)) (fnParts 0 p.fns) = (p, 0) := by
    unfold rdParts
    rw [e1, if_pos rfl, fns_back p.fns 0 h.each (by omega)]
    dsimp only
    rw [Int.toNat_of_nonneg h1]
  have e3 : decE 0 80 (partsC p) = 0 := by
    unfold decE partsC
    rw [if_pos rfl]
    dsimp only
    rw [if_pos ⟨rfl, rfl⟩, parts_len, if_neg (by omega), e2, if_pos rfl]
    exact (progE_iff p).2 h
  refine ⟨e3, ?_⟩
  unfold decV
  rw [if_pos e3]
  unfold partsC
  dsimp only
  rw [e2]
theorem insL_len (i : In) (h : mayB i = true) : (insL i).length ≤ 11 := by
  obtain ⟨n1, n2⟩ := mayB_n h
  have := Vy.enc_len10 (zz i.2) (zz_lt _ n1 n2)
  unfold insL
  rw [List.length_cons]
  split
  · omega
  · simp
theorem flat_len : ∀ (l : List In), (∀ i ∈ l, mayB i = true) → (l.flatMap insL).length ≤ 11 * l.length
  | [], _ => Nat.le_refl _
  | i :: l, h => by
    have h1 := insL_len i (h i List.mem_cons_self)
    have h2 := flat_len l fun x hx => h x (List.mem_cons_of_mem _ hx)
    rw [List.flatMap_cons, List.length_append, List.length_cons]
    omega
theorem fnL_len {f : FnV} (h : FnR f) : (fnL f).length ≤ 43 + 11 * f.code.length := by
  have h1 := h.locals
  have h2 := flat_len f.code h.ins
  obtain ⟨p1, _, _⟩ := fnR_nat h
  have h3 := Vy.enc_len10 f.params.toNat (by omega)
  have h4 := Vy.enc_len10 f.locals.length (by omega)
  have h5 := Vy.enc_len10 f.code.length (by have := h.code; omega)
  unfold fnL kindsL
  simp only [List.length_append, List.length_map, List.length_singleton]
  omega
theorem fnParts_rises : ∀ (l : List FnV) (k t : Nat), t < 98 + k → k + l.length ≤ 150 → Rises (some t) (fnParts k l)
  | [], _, _, _, _ => trivial
  | f :: l, k, t, ht, hk => by
    rw [List.length_cons] at hk
    refine ⟨fun x hx => (by cases hx; exact ht), by show 98 + k < 256; omega, ?_⟩
    exact fnParts_rises l (k + 1) (98 + k) (by omega) (by omega)
theorem parts_small : ∀ (l : List FnV) (k : Nat), (∀ f ∈ l, FnR f ∧ f.code.length ≤ 5000) → Small (fnParts k l)
  | [], _, _ => fun p hp => by cases hp
  | f :: l, k, h => fun p hp => by
    rcases List.mem_cons.1 hp with rfl | hp
    · obtain ⟨h1, h2⟩ := h f List.mem_cons_self
      have := fnL_len h1
      show (txt (fnL f)).size ≤ _
      rw [txt_size]; omega
    · exact parts_small l (k + 1) (fun x hx => h x (List.mem_cons_of_mem _ hx)) p hp
theorem good_parts {p : Pg} (h : PgR p) (hs : ∀ f ∈ p.fns, f.code.length ≤ 5000) : Good (partsC p) := by
  have h1 := h.fns
  have h2 := Vy.enc_len10 p.globals.toNat (by have := h.globals; omega)
  refine ⟨by unfold partsC; rw [List.length_cons, parts_len]; omega, fun q hq => ?_, fun x hx => (by cases hx), by show (97 : Nat) < 256; omega, ?_⟩
  · rcases List.mem_cons.1 hq with rfl | hq
    · show (txt _).size ≤ _
      rw [txt_size]; omega
    · exact parts_small p.fns 0 (fun f hf => ⟨h.each f hf, hs f hf⟩) q hq
  · exact fnParts_rises p.fns 0 97 (by omega) (by omega)
theorem partsL_len : ∀ (ps : List WPart) (m : Nat), (∀ q ∈ ps, q.2.size ≤ m) → m ≤ 60000 → (partsL ps).length ≤ ps.length * (m + 15)
  | [], _, _, _ => by simp [partsL]
  | q :: ps, m, h, hm => by
    have h1 := h q List.mem_cons_self
    have ih := partsL_len ps m (fun x hx => h x (List.mem_cons_of_mem _ hx)) hm
    have h2 := Vy.enc_len10 q.2.size (by omega)
    rw [partsL_cons, List.length_append, sealed_length, partL_length, List.length_cons, Nat.add_mul]
    omega
theorem parts_each : ∀ (l : List FnV) (k m : Nat), (∀ f ∈ l, (fnL f).length ≤ m) → ∀ q ∈ fnParts k l, q.2.size ≤ m
  | [], _, _, _, _, hq => by cases hq
  | f :: l, k, m, h, q, hq => by
    rcases List.mem_cons.1 hq with rfl | hq
    · show (txt (fnL f)).size ≤ _
      rw [txt_size]; exact h f List.mem_cons_self
    · exact parts_each l (k + 1) m (fun x hx => h x (List.mem_cons_of_mem _ hx)) q hq
theorem parts_total {p : Pg} (h : PgR p) (hs : ∀ f ∈ p.fns, f.code.length ≤ 120) : (partsL (partsC p)).length ≤ 20000 := by
  have h1 := h.fns
  have h2 := Vy.enc_len10 p.globals.toNat (by have := h.globals; omega)
  have := partsL_len (partsC p) 1370 (fun q hq => by
    rcases List.mem_cons.1 hq with rfl | hq
    · show (txt _).size ≤ _
      rw [txt_size]; omega
    · refine parts_each p.fns 0 1370 (fun f hf => ?_) q hq
      have a := fnL_len (h.each f hf)
      have b := hs f hf
      omega) (by decide)
  have hl : (partsC p).length ≤ 13 := by unfold partsC; rw [List.length_cons, parts_len]; omega
  have : (partsC p).length * (1370 + 15) ≤ 13 * (1370 + 15) := Nat.mul_le_mul_right _ hl
  omega

/-! The way back: what is read was written so. -/
/-- The reader went over these bytes, and nothing was wrong. -/
def Over (s : List Nat) (r : Rd) (x : List Nat) (r' : Rd) : Prop := r.err = 0 ∧ r'.err = 0 ∧ s.drop r.at_ = x ++ s.drop r'.at_
theorem over_nil (h : r.err = 0) : Over s r [] r := ⟨h, h, rfl⟩
theorem Over.then {r1 r2 r3 : Rd} {x y : List Nat} (h1 : Over s r1 x r2) (h2 : Over s r2 y r3) : Over s r1 (x ++ y) r3 :=
  ⟨h1.1, h2.2.1, by rw [h1.2.2, h2.2.2, List.append_assoc]⟩
theorem reads_drop {l : List Nat} {n : Nat} (h : Reads l n) : l = Vy.enc n ++ l.drop (Vy.enc n).length := by
  obtain ⟨t, ht⟩ := h.2
  rw [← ht, List.drop_left]
theorem rdCount_over {most : Nat} (h : (rdCount s most r).2.err = 0) : Over s r (Vy.enc (rdCount s most r).1) (rdCount s most r).2 ∧ (rdCount s most r).1 < 2 ^ 64 := by
  unfold rdCount at h ⊢
  split at h
  · exact absurd h (wrong_err (by decide))
  · rename_i n hn
    split at h
    · exact absurd h (wrong_err (by decide))
    · rename_i hm
      rw [if_neg hm]
      split at h
      · rename_i h0
        rw [if_pos h0]
        refine ⟨⟨h0, rfl, ?_⟩, (rd_some hn).1⟩
        rw [← List.drop_drop]
        exact reads_drop (rd_some hn)
      · rename_i h0
        exact absurd h h0
theorem zz_uz {n : Nat} : zz (uz n) = n := by
  unfold zz uz
  by_cases h : n % 2 = 1
  · rw [if_pos h, if_neg (by omega)]; omega
  · rw [if_neg h, if_pos (by omega)]; omega
theorem rdNumber_over (h : (rdNumber s r).2.err = 0) : Over s r (Vy.enc (zz (rdNumber s r).1)) (rdNumber s r).2 := by
  unfold rdNumber at h ⊢
  split at h
  · exact absurd h (wrong_err (by decide))
  · rename_i n hn
    split at h
    · rename_i h0
      rw [if_pos h0]
      refine ⟨h0, rfl, ?_⟩
      rw [zz_uz, ← List.drop_drop]
      exact reads_drop (rd_some hn)
    · rename_i h0
      exact absurd h h0
theorem rdByte_over (hr : r.at_ ≤ s.length) (h : (rdByte s r).2.err = 0) : Over s r [(rdByte s r).1] (rdByte s r).2 := by
  unfold rdByte at h ⊢
  split at h
  · exact absurd h (wrong_err (by decide))
  · rename_i hl
    rw [if_neg hl]
    split at h
    · rename_i h0
      rw [if_pos h0]
      refine ⟨h0, rfl, ?_⟩
      have hlt : r.at_ < s.length := by omega
      show _ = [s.getD r.at_ 0] ++ _
      rw [List.drop_eq_getElem_cons hlt, List.getD_eq_getElem?_getD, List.getElem?_eq_getElem hlt]
      rfl
    · rename_i h0
      exact absurd h h0
theorem rdIns_over (hr : r.at_ ≤ s.length) (h : (rdIns s r).2.err = 0) : Over s r (insL (rdIns s r).1) (rdIns s r).2 := by
  unfold rdIns at h ⊢
  unfold insL
  by_cases hn : hasN ((rdByte s r).1 : Int) = true
  · rw [if_pos hn] at h ⊢
    dsimp only at h ⊢
    rw [if_pos hn]
    have h2 := rdNumber_over h
    have h1 := rdByte_over hr h2.1
    exact h1.then h2
  · rw [if_neg hn] at h ⊢
    dsimp only at h ⊢
    rw [if_neg hn]
    exact rdByte_over hr h
theorem rdBytes_over : ∀ (n : Nat) (r : Rd), r.at_ ≤ s.length → (rdBytes s n r).2.err = 0 → Over s r (kindsL (rdBytes s n r).1) (rdBytes s n r).2
  | 0, _, _, h => over_nil h
  | n + 1, r, hr, h => by
    have h2 := rdBytes_over n _ (rdByte_le hr) h
    exact (rdByte_over hr h2.1).then h2
theorem rdInss_over : ∀ (n : Nat) (r : Rd), r.at_ ≤ s.length → (rdInss s n r).2.err = 0 → Over s r ((rdInss s n r).1.flatMap insL) (rdInss s n r).2
  | 0, _, _, h => over_nil h
  | n + 1, r, hr, h => by
    have h2 := rdInss_over n _ (rdIns_le hr) h
    have := (rdIns_over hr h2.1).then h2
    unfold rdInss
    rw [List.flatMap_cons]
    exact this
theorem rdEnd_over (h : rdEnd s r = 0) : r.err = 0 ∧ s.drop r.at_ = [] := by
  unfold rdEnd at h
  split at h
  · rename_i h0
    exact ⟨h, by rw [h0, List.drop_length]⟩
  · exact absurd h (wrong_err (by decide))
theorem fn_one' {c1 c2 c4 c5 : Nat × Rd} {c3 : List Int × Rd} {c6 : List In × Rd} (h1 : rdCount s 12 ⟨0, 0⟩ = c1) (h2 : rdCount s 12 c1.2 = c2) (h3 : rdBytes s c2.1 c2.2 = c3) (h4 : rdByte s c3.2 = c4) (h5 : rdCount s 9000 c4.2 = c5) (h6 : rdInss s c5.1 c5.2 = c6) (h : rdEnd s c6.2 = 0) :
    Vy.enc c1.1 ++ Vy.enc c3.1.length ++ kindsL c3.1 ++ [c4.1] ++ Vy.enc c6.1.length ++ c6.1.flatMap insL = s := by
  obtain ⟨h0, hd⟩ := rdEnd_over h
  have l1 : c1.2.at_ ≤ s.length := by rw [← h1]; exact rdCount_le (Nat.zero_le _)
  have l2 : c2.2.at_ ≤ s.length := by rw [← h2]; exact rdCount_le l1
  have l3 : c3.2.at_ ≤ s.length := by rw [← h3]; exact rdBytes_le _ _ l2
  have l4 : c4.2.at_ ≤ s.length := by rw [← h4]; exact rdByte_le l3
  have l5 : c5.2.at_ ≤ s.length := by rw [← h5]; exact rdCount_le l4
  have o6 : Over s c5.2 (c6.1.flatMap insL) c6.2 := by rw [← h6] at h0 ⊢; exact rdInss_over _ _ l5 h0
  have o5 : Over s c4.2 (Vy.enc c5.1) c5.2 := by have := o6.1; rw [← h5] at this ⊢; exact (rdCount_over this).1
  have o4 : Over s c3.2 [c4.1] c4.2 := by have := o5.1; rw [← h4] at this ⊢; exact rdByte_over l3 this
  have o3 : Over s c2.2 (kindsL c3.1) c3.2 := by have := o4.1; rw [← h3] at this ⊢; exact rdBytes_over _ _ l2 this
  have o2 : Over s c1.2 (Vy.enc c2.1) c2.2 := by have := o3.1; rw [← h2] at this ⊢; exact (rdCount_over this).1
  have o1 : Over s ⟨0, 0⟩ (Vy.enc c1.1) c1.2 := by have := o2.1; rw [← h1] at this ⊢; exact (rdCount_over this).1
  have this := (((((o1.then o2).then o3).then o4).then o5).then o6).2.2
  rw [hd, List.append_nil, show s.drop (Rd.at_ ⟨0, 0⟩) = s from rfl] at this
  have e3 : c3.1.length = c2.1 := by rw [← h3]; exact rdBytes_len _ _
  have e6 : c6.1.length = c5.1 := by rw [← h6]; exact rdInss_len _ _
  rw [e3, e6]
  exact this.symm
theorem fnL_of (a : Nat) (l : List Int) (b : Nat) (c : List In) : fnL ⟨(a : Int), l, (b : Int), c⟩ = Vy.enc a ++ Vy.enc l.length ++ kindsL l ++ [b] ++ Vy.enc c.length ++ c.flatMap insL := rfl
theorem fn_one (h : rdFnE s = 0) : fnL (rdFnV s) = s := by
  unfold rdFnV
  rw [fnL_of]
  exact fn_one' (c1 := rdFn1 s) (c2 := rdFn2 s) (c3 := rdFn3 s) (c4 := rdFn4 s) (c5 := rdFn5 s) (c6 := rdFn6 s) (by unfold rdFn1; rfl) (by unfold rdFn2; rfl) (by unfold rdFn3; rfl) (by unfold rdFn4; rfl) (by unfold rdFn5; rfl) (by unfold rdFn6; rfl) (by unfold rdFnE at h; exact h)
theorem rdFns_cons (k : Nat) (p : WPart) (r : List WPart) : rdFns k (p :: r) = if p.1 = (98 + k) % 256 then (if rdFnE (bs p.2) = 0 then (rdFnV (bs p.2) :: (rdFns (k + 1) r).1, (rdFns (k + 1) r).2) else ([rdFnV (bs p.2)], rdFnE (bs p.2))) else ([], 3) := rfl
theorem fns_one : ∀ (ps : List WPart) (k : Nat), k + ps.length ≤ 150 → (rdFns k ps).2 = 0 → fnParts k (rdFns k ps).1 = ps
  | [], _, _, _ => rfl
  | p :: ps, k, hk, h => by
    rw [List.length_cons] at hk
    rw [rdFns_cons] at h ⊢
    by_cases h1 : p.1 = (98 + k) % 256
    · rw [if_pos h1] at h ⊢
      by_cases h2 : rdFnE (bs p.2) = 0
      · rw [if_pos h2] at h ⊢
        dsimp only at h ⊢
        have ih := fns_one ps (k + 1) (by omega) h
        unfold fnParts
        rw [ih, fn_one h2, txt_bs]
        have : p.1 = 98 + k := by omega
        rw [← this]
      · rw [if_neg h2] at h
        dsimp only at h
        exact absurd h h2
    · rw [if_neg h1] at h
      cases h
theorem rdFns_len : ∀ (ps : List WPart) (k : Nat), (rdFns k ps).1.length ≤ ps.length
  | [], _ => Nat.le_refl _
  | p :: ps, k => by
    have ih := rdFns_len ps (k + 1)
    unfold rdFns
    split
    · split
      · simp; omega
      · simp
    · simp
theorem dec_one {re k : Nat} {ps : List WPart} (h : decE re k ps = 0) : re = 0 ∧ k = 80 ∧ PgR (decV re k ps) ∧ partsC (decV re k ps) = ps := by
  have h' := h
  unfold decE at h'
  by_cases hr : re = 0
  · rw [if_pos hr] at h'
    unfold decV
    rw [if_pos h]
    cases ps with
    | nil => cases h'
    | cons first rest =>
      dsimp only at h' ⊢
      by_cases hc : k = 80 ∧ first.1 = 97
      · rw [if_pos hc] at h'
        by_cases hl : 12 < rest.length
        · rw [if_pos hl] at h'; cases h'
        · rw [if_neg hl] at h'
          by_cases hp : (rdParts first rest).2 = 0
          · rw [if_pos hp] at h'
            refine ⟨hr, hc.1, (progE_iff _).1 h', ?_⟩
            unfold rdParts at hp ⊢
            by_cases hh : (rdHead (bs first.2)).2 = 0
            · rw [if_pos hh] at hp ⊢
              unfold partsC
              dsimp only at hp ⊢
              rw [fns_one rest 0 (by omega) hp]
              have hd : rdEnd (bs first.2) (rdCount (bs first.2) 8 ⟨0, 0⟩).2 = 0 := hh
              obtain ⟨he, hdr⟩ := rdEnd_over hd
              obtain ⟨ho, _⟩ := rdCount_over he
              have := ho.2.2
              rw [hdr, List.append_nil] at this
              have e0 : (bs first.2).drop (Rd.at_ ⟨0, 0⟩) = bs first.2 := rfl
              rw [e0] at this
              have e1 : (((rdHead (bs first.2)).1 : Nat) : Int).toNat = (rdCount (bs first.2) 8 ⟨0, 0⟩).1 := rfl
              rw [e1, ← this, txt_bs, ← hc.2]
            · rw [if_neg hh] at hp
              exact absurd hp hh
          · rw [if_neg hp] at h'
            exact absurd h' hp
      · rw [if_neg hc] at h'; cases h'
  · rw [if_neg hr] at h'
    exact absurd h' hr
end Cd
end Go.Proofs.YtlfcfaceeloedaaDoor
