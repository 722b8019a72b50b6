/-
  The plain mathematics of chapter 3, second part: what is opened was sealed, what is sealed is opened, and no text of parts begins another one. No walk.
-/
import Derived.Test.YtlfcfaceeloedaaDoorWireM
namespace Go.Proofs.YtlfcfaceeloedaaDoor
open Go.RowKit

theorem drop_split (l : List Nat) (a b : Nat) (h : a ≤ b) : l.drop a = (l.take b).drop a ++ l.drop b := by
  conv => lhs; rw [← List.take_append_drop b l]
  by_cases hb : b ≤ l.length
  · rw [List.drop_append_of_le_length (by rw [List.length_take]; omega)]
  · rw [List.take_of_length_le (by omega), List.drop_of_length_le (show l.length ≤ b by omega), List.append_nil, List.append_nil]
theorem bs_drop_split (s : ByteArray) (a b : Nat) (h : a ≤ b) : (bs s).drop a = bs (s.extract a b) ++ (bs s).drop b := by
  rw [bs_extract]; exact drop_split _ a b h

theorem Reads.det {l : List Nat} {n m : Nat} (h : Reads l n) (k : Reads l m) : n = m := Vy.enc_prefix h.2 k.2
theorem RT.ok {s : ByteArray} {a e : Nat} {b : ByteArray} (h : RT s a b e 0) (ha : a ≤ s.size) : (bs s).drop a = Vy.enc b.size ++ bs b ++ (bs s).drop e ∧ e = a + (Vy.enc b.size).length + b.size := by
  rcases h with ⟨n, h1, h2, h3, h4, _⟩ | ⟨_, _, _, h⟩
  · have hl := h1.len
    rw [List.length_drop, bs_length] at hl
    have hb : b.size = n := by rw [h3, ByteArray.size_extract]; omega
    subst hb
    refine ⟨?_, h4⟩
    rw [bs_drop_split s a (a + (Vy.enc b.size).length) (by omega), bs_drop_split s (a + (Vy.enc b.size).length) e (by omega), ← List.append_assoc]
    congr 2
    · rw [bs_extract, List.drop_take, show a + (Vy.enc b.size).length - a = (Vy.enc b.size).length by omega]
      exact (List.prefix_iff_eq_take.1 h1.2).symm
    · rw [h4, ← h3]
  · cases h
theorem RT.mk {s : ByteArray} {a : Nat} {b : ByteArray} {r : List Nat} (h : (bs s).drop a = Vy.enc b.size ++ bs b ++ r) (ha : a ≤ s.size) (hb : b.size < 2 ^ 64) : RT s a b (a + (Vy.enc b.size).length + b.size) 0 := by
  have hl := congrArg List.length h
  rw [List.length_drop, bs_length, List.length_append, List.length_append, bs_length] at hl
  refine Or.inl ⟨b.size, ⟨hb, by rw [h, List.append_assoc]; exact List.prefix_append _ _⟩, by omega, ?_, rfl, rfl⟩
  apply bs_inj
  rw [bs_extract, List.drop_take, ← List.drop_drop, h, List.append_assoc, List.drop_left' rfl, show a + (Vy.enc b.size).length + b.size - (a + (Vy.enc b.size).length) = b.size by omega, List.take_left' (bs_length b)]
theorem RT.det {s : ByteArray} {a e f x y : Nat} {b c : ByteArray} (h : RT s a b e x) (k : RT s a c f y) : b = c ∧ e = f ∧ x = y := by
  rcases h with ⟨n, h1, h2, h3, h4, h5⟩ | ⟨h1, h2, h3, h4⟩
  · rcases k with ⟨m, k1, k2, k3, k4, k5⟩ | ⟨k1, _⟩
    · obtain rfl := h1.det k1
      exact ⟨by rw [h3, k3], by rw [h4, k4], by rw [h5, k5]⟩
    · have := k1 n h1; omega
  · rcases k with ⟨m, k1, k2, _⟩ | ⟨_, k2, k3, k4⟩
    · have := h1 m k1; omega
    · exact ⟨by rw [h2, k2], by rw [h3, k3], by rw [h4, k4]⟩

theorem drop_getD (s : ByteArray) (a : Nat) (h : a < s.size) : (bs s).drop a = (bs s).getD a 0 :: (bs s).drop (a + 1) := by
  have hl : a < (bs s).length := by rw [bs_length]; exact h
  rw [List.drop_eq_getElem_cons hl, List.getD_eq_getElem?_getD, List.getElem?_eq_getElem hl]; rfl
theorem RP.ok {s : ByteArray} {a t nx : Nat} {b : ByteArray} (h : RP s a t b nx 0) : a < s.size ∧ nx ≤ s.size ∧ a < nx ∧ t < 256 ∧ b.size ≤ s.size ∧ (bs s).drop a = sealed (partL (t, b)) ++ (bs s).drop nx := by
  rcases h with ⟨e, h1, h2, h3, h4, h5, h6, _⟩ | ⟨_, _, _, h⟩
  · obtain ⟨g1, g2⟩ := h2.ok (by omega)
    have hle := h2.le (by omega)
    have ht : t < 256 := by rw [h5, bs_getD s a h1]; exact s[a].toNat_lt
    refine ⟨h1, by omega, by omega, ht, hle.2.2, ?_⟩
    have hp : (bs s).drop a = partL (t, b) ++ (bs s).drop e := by
      rw [drop_getD s a h1, g1, ← h5]; simp [partL]
    have hx : bs (s.extract a e) = partL (t, b) := by
      have := bs_drop_split s a e (by omega)
      rw [hp] at this
      exact (List.append_cancel_right this).symm
    have h4' : bs (s.extract e (e + 4)) = four (Crc.more 0 (bs (s.extract a e))) := h4
    rw [hp, bs_drop_split s e (e + 4) (by omega), h4', hx, h6]
    simp [sealed]
  · rcases h with ⟨_, h⟩ | ⟨_, _, h⟩ | ⟨_, _, _, _, _, h⟩ | ⟨_, _, _, _, _, _, h⟩ <;> cases h
theorem RP.full {s : ByteArray} {a t nx re t' : Nat} {b b' : ByteArray} {r : List Nat} (h : (bs s).drop a = sealed (partL (t, b)) ++ r) (ha : a ≤ s.size) (hb : b.size < 2 ^ 64) (k : RP s a t' b' nx re) :
    t' = t ∧ b' = b ∧ nx = a + (sealed (partL (t, b))).length ∧ re = 0 ∧ (bs s).drop nx = r := by
  have hl := congrArg List.length h
  rw [List.length_drop, bs_length, List.length_append, sealed_length, partL_length] at hl
  have hl : s.size - a = 1 + (Vy.enc b.size).length + b.size + 4 + r.length := hl
  have h1 : a < s.size := by omega
  have hd := drop_getD s a h1
  rw [h] at hd
  have hd' : t :: (Vy.enc b.size ++ bs b ++ (four (Crc.more 0 (partL (t, b))) ++ r)) = (bs s).getD a 0 :: (bs s).drop (a + 1) := by
    rw [← hd]; simp [sealed, partL]
  obtain ⟨e1, e2⟩ := List.cons.inj hd'
  have hT := RT.mk (s := s) (a := a + 1) (b := b) e2.symm (by omega) hb
  generalize he : a + 1 + (Vy.enc b.size).length + b.size = e at hT
  have h3 : e + 4 ≤ s.size := by omega
  have hp : (bs s).drop a = partL (t, b) ++ (four (Crc.more 0 (partL (t, b))) ++ r) := by rw [h]; simp [sealed]
  have hx : bs (s.extract a e) = partL (t, b) ∧ (bs s).drop e = four (Crc.more 0 (partL (t, b))) ++ r := by
    have h5 := bs_drop_split s a e (by omega)
    rw [hp] at h5
    have hlen : (bs (s.extract a e)).length = (partL (t, b)).length := by
      rw [bs_length, ByteArray.size_extract, partL_length]
      show min e s.size - a = 1 + (Vy.enc b.size).length + b.size
      omega
    have := List.append_inj h5 hlen.symm
    exact ⟨this.1.symm, this.2.symm⟩
  have hF : Fits s a e ∧ (bs s).drop (e + 4) = r := by
    have h5 := bs_drop_split s e (e + 4) (by omega)
    rw [hx.2] at h5
    have hlen : (bs (s.extract e (e + 4))).length = (four (Crc.more 0 (partL (t, b)))).length := by
      rw [bs_length, ByteArray.size_extract, four_length]; omega
    have := List.append_inj h5 hlen.symm
    exact ⟨by unfold Fits; rw [hx.1]; exact this.1.symm, this.2.symm⟩
  have hsl : (sealed (partL (t, b))).length = 1 + (Vy.enc b.size).length + b.size + 4 := by rw [sealed_length, partL_length]
  rcases k with ⟨e', k1, k2, k3, k4, k5, k6, k7⟩ | ⟨_, _, _, k⟩
  · obtain ⟨g1, g2, _⟩ := k2.det hT
    subst g1; subst g2
    exact ⟨by rw [k5]; exact e1.symm, rfl, by rw [k6, hsl]; omega, k7, by rw [k6]; exact hF.2⟩
  · exfalso
    rcases k with ⟨k, _⟩ | ⟨_, k, _⟩ | ⟨e', b', _, k, k2, _⟩ | ⟨e', b', _, k, _, k2, _⟩
    · omega
    · have := (k.det hT).2.2; cases this
    · obtain ⟨_, g2, _⟩ := k.det hT; omega
    · obtain ⟨_, g2, _⟩ := k.det hT
      subst g2; exact k2 hF.1

theorem PS.ok {s : ByteArray} : ∀ {n a : Nat} {last : Option Nat} {ps : List WPart} {re : Nat}, PS s n a last ps re → re = 0 → a ≤ s.size → ps.length = n ∧ Rises last ps ∧ (∀ p ∈ ps, p.2.size ≤ s.size) ∧ (bs s).drop a = partsL ps := by
  intro n
  induction n with
  | zero =>
    intro a last ps re h hre ha
    obtain ⟨rfl, h⟩ := h
    rcases h with ⟨rfl, _⟩ | ⟨_, rfl⟩
    · exact ⟨rfl, trivial, (fun p hp => by cases hp), by rw [List.drop_of_length_le (by rw [bs_length]; exact Nat.le_refl _)]; rfl⟩
    · cases hre
  | succ n ih =>
    intro a last ps re h hre ha
    obtain ⟨t, b, nx, e, hp, h⟩ := h
    rcases h with ⟨h1, _, h2⟩ | ⟨_, _, _, h2⟩ | ⟨rfl, h1, ps', h2, h3⟩
    · exact absurd (h2.symm.trans hre) h1
    · rw [h2] at hre; cases hre
    · subst hre
      obtain ⟨g1, g2, g3, g4, g5, g6⟩ := hp.ok
      obtain ⟨i1, i2, i3, i4⟩ := ih h2 rfl g2
      rw [if_pos rfl] at h3
      subst h3
      refine ⟨by simp [i1], ⟨h1, g4, i2⟩, fun p hp => ?_, by rw [g6, i4, partsL_cons]⟩
      rcases List.mem_cons.1 hp with rfl | hp
      · exact g5
      · exact i3 p hp
theorem PS.full {s : ByteArray} : ∀ {ps : List WPart} {n a : Nat} {last : Option Nat} {ps' : List WPart} {re : Nat}, (bs s).drop a = partsL ps → a ≤ s.size → ps.length = n → Rises last ps → (∀ p ∈ ps, p.2.size < 2 ^ 64) → PS s n a last ps' re → ps' = ps ∧ re = 0 := by
  intro ps
  induction ps with
  | nil =>
    intro n a last ps' re hd ha hn hr hsz h
    subst hn
    obtain ⟨rfl, h⟩ := h
    rcases h with ⟨_, h⟩ | ⟨h, _⟩
    · exact ⟨rfl, h⟩
    · exfalso
      have := congrArg List.length hd
      rw [List.length_drop, bs_length] at this
      have h0 : (partsL []).length = 0 := rfl
      omega
  | cons p ps ih =>
    intro n a last ps' re hd ha hn hr hsz h
    subst hn
    obtain ⟨t, b, nx, e, hp, h⟩ := h
    rw [partsL_cons] at hd
    obtain ⟨g1, g2, g3, g4, g5⟩ := RP.full (t := p.1) (b := p.2) hd ha (hsz p (List.mem_cons_self ..)) hp
    subst g1; subst g2; subst g4
    have hnx : nx ≤ s.size := by
      have := congrArg List.length hd
      rw [List.length_drop, bs_length, List.length_append] at this
      have h0 : (sealed (partL (p.1, p.2))).length = (sealed (partL p)).length := rfl
      have h1 := sealed_length (partL p)
      omega
    rcases h with ⟨h1, _, _⟩ | ⟨_, h1, _⟩ | ⟨_, h1, ps'', h2, h3⟩
    · exact absurd rfl h1
    · exact absurd hr.1 h1
    · obtain ⟨i1, i2⟩ := ih g5 hnx rfl hr.2.2 (fun q hq => hsz q (List.mem_cons_of_mem _ hq)) h2
      subst i2
      rw [if_pos rfl, i1] at h3
      exact ⟨h3, rfl⟩

theorem size_extract0 (s : ByteArray) (h : 4 ≤ s.size) : (s.extract 0 (s.size - 4)).size = s.size - 4 := by rw [ByteArray.size_extract]; omega
theorem OP.good {s : ByteArray} {k : Nat} {ps : List WPart} {re : Nat} (h : OP s k ps re) (hre : re = 0) (hs : s.size ≤ 60000) : Good ps ∧ k < 256 ∧ bs s = wholeL k ps := by
  rcases h with ⟨_, _, h, _⟩ | ⟨h8, hpre, h⟩
  · rw [h] at hre; cases hre
  rcases h with ⟨_, _, _, h⟩ | ⟨hF, n, a, e, hR, h⟩
  · rw [h] at hre; cases hre
  rcases h with ⟨_, _, _, _, _, h⟩ | ⟨_, _, _, _, h⟩ | ⟨he, hn, hp, hk⟩
  · rw [h] at hre; cases hre
  · rw [h] at hre; cases hre
  subst he
  generalize hr : s.extract 0 (s.size - 4) = r at *
  have hrs : r.size = s.size - 4 := by rw [← hr]; exact size_extract0 s (by omega)
  rw [if_pos hre] at hk
  rcases hR with ⟨hR, ha, _⟩ | ⟨_, _, _, h⟩
  · have hlen := hR.len
    rw [List.length_drop, bs_length] at hlen
    obtain ⟨g1, g2, g3, g4⟩ := hp.ok hre (by omega)
    have hk256 : k < 256 := by rw [hk, bs_getD s 3 (by omega)]; exact s[3].toNat_lt
    refine ⟨⟨by omega, fun p hp => by have := g3 p hp; omega, g2⟩, hk256, ?_⟩
    have hbr : bs r = (bs s).take (s.size - 4) := by rw [← hr, bs_extract, List.drop_zero]
    have hhead : bs r = headL k ps := by
      have e1 := (List.take_append_drop 4 (bs r)).symm
      have e2 : (bs r).drop 4 = Vy.enc n ++ partsL ps := by
        rw [← g4, ha, ← List.drop_drop]
        conv => lhs; rw [← List.take_append_drop (Vy.enc n).length ((bs r).drop 4)]
        rw [← List.prefix_iff_eq_take.1 hR.2]
      have e3 : (bs r).take 4 = [83, 76, 87, k] := by
        rw [hbr, List.take_take, Nat.min_eq_left (by omega), show (4 : Nat) = 3 + 1 from rfl, List.take_succ_eq_append_getElem (by rw [bs_length]; omega)]
        have e4 : (bs s).take 3 = [83, 76, 87] := (List.prefix_iff_eq_take.1 hpre).symm
        rw [e4, hk, List.getD_eq_getElem?_getD, List.getElem?_eq_getElem (by rw [bs_length]; omega)]; rfl
      rw [e1, e2, e3, ← g1]; rfl
    have hF' : bs (s.extract (s.size - 4) (s.size - 4 + 4)) = four (Crc.more 0 (bs r)) := by unfold Fits at hF; rw [hr] at hF; exact hF
    have h5 := bs_drop_split s 0 (s.size - 4) (by omega)
    have h6 := bs_drop_split s (s.size - 4) (s.size - 4 + 4) (by omega)
    rw [List.drop_zero, hr] at h5
    rw [h5, h6, hF', hhead, List.drop_of_length_le (by rw [bs_length]; omega), List.append_nil]
    rfl
  · cases h

theorem Good.small64 {ps : List WPart} (h : Good ps) : ∀ p ∈ ps, p.2.size < 2 ^ 64 := fun p hp => by have := h.2.1 p hp; omega
theorem headL_split (k : Nat) (ps : List WPart) : headL k ps = [83, 76, 87, k] ++ (Vy.enc ps.length ++ partsL ps) := rfl
theorem OP.full {s : ByteArray} {k k' : Nat} {ps ps' : List WPart} {re : Nat} (hs : bs s = wholeL k ps) (hg : Good ps) (h : OP s k' ps' re) : k' = k ∧ ps' = ps ∧ re = 0 := by
  have hlen : s.size = 4 + (Vy.enc ps.length).length + (partsL ps).length + 4 := by
    rw [← bs_length, hs, wholeL, sealed_length, headL_split]; simp; omega
  have hel := Vy.enc_len_pos ps.length
  have hpre : [83, 76, 87] <+: bs s := by rw [hs]; exact ⟨k :: (Vy.enc ps.length ++ partsL ps) ++ four (Crc.more 0 (headL k ps)), rfl⟩
  have hx : bs (s.extract 0 (s.size - 4)) = headL k ps ∧ (bs s).drop (s.size - 4) = four (Crc.more 0 (headL k ps)) := by
    have h5 := bs_drop_split s 0 (s.size - 4) (by omega)
    rw [List.drop_zero] at h5
    have h5' : headL k ps ++ four (Crc.more 0 (headL k ps)) = _ := hs.symm.trans h5
    have := List.append_inj h5' (by rw [bs_length, size_extract0 s (by omega), headL_split]; simp; omega)
    exact ⟨this.1.symm, this.2.symm⟩
  have hF : Fits s 0 (s.size - 4) := by
    unfold Fits
    have h6 := bs_drop_split s (s.size - 4) (s.size - 4 + 4) (by omega)
    rw [List.drop_of_length_le (show (bs s).length ≤ s.size - 4 + 4 by rw [bs_length]; omega), List.append_nil] at h6
    rw [← h6, hx.1, hx.2]
  rcases h with ⟨_, _, _, h⟩ | ⟨_, _, h⟩
  · rcases h with h | h
    · omega
    · exact absurd hpre h
  rcases h with ⟨h, _⟩ | ⟨_, n, a, e, hR, h⟩
  · exact absurd hF h
  have hrs := size_extract0 s (by omega)
  generalize s.extract 0 (s.size - 4) = r at *
  have hd4 : (bs r).drop 4 = Vy.enc ps.length ++ partsL ps := by rw [hx.1]; rfl
  have hRd : Reads ((bs r).drop 4) ps.length := ⟨by have := hg.1; omega, by rw [hd4]; exact List.prefix_append _ _⟩
  rcases hR with ⟨hR, ha, he⟩ | ⟨hR, _⟩
  · obtain rfl := hRd.det hR
    subst he
    rcases h with ⟨h, _⟩ | ⟨_, h, _⟩ | ⟨_, _, hp, hk⟩
    · cases h
    · have := hg.1; omega
    · have hd : (bs r).drop a = partsL ps := by rw [ha, ← List.drop_drop, hd4, List.drop_left' rfl]
      obtain ⟨g1, g2⟩ := PS.full hd (by omega) rfl hg.2.2 hg.small64 hp
      refine ⟨?_, g1, g2⟩
      rw [hk, if_pos g2, hs]
      rfl
  · exact absurd hRd (hR _)

/-- No text of parts begins another one. -/
theorem prefix_len {a b l : List Nat} (ha : a <+: l) (hb : b <+: l) (h : a.length = b.length) : a = b := by
  rw [List.prefix_iff_eq_take.1 ha, List.prefix_iff_eq_take.1 hb, h]
theorem prefix_drop {a b l : List Nat} (h : a ++ b <+: l) : b <+: l.drop a.length := by
  obtain ⟨r, rfl⟩ := h
  rw [List.append_assoc, List.drop_left' rfl]
  exact List.prefix_append _ _
theorem parts_prefix : ∀ (ps qs : List WPart) (l : List Nat), partsL ps <+: l → partsL qs <+: l → ps.length = qs.length → (∀ p ∈ ps, p.2.size < 2 ^ 64) → (∀ p ∈ qs, p.2.size < 2 ^ 64) → (partsL ps).length = (partsL qs).length := by
  intro ps
  induction ps with
  | nil =>
    intro qs l _ _ hn _ _
    cases qs with
    | nil => rfl
    | cons q qs => cases hn
  | cons p ps ih =>
    intro qs l hp hq hn h1 h2
    cases qs with
    | nil => cases hn
    | cons q qs =>
      rw [partsL_cons] at hp hq
      have hsp := List.IsPrefix.trans (List.prefix_append _ _) hp
      have hsq := List.IsPrefix.trans (List.prefix_append _ _) hq
      have key : (sealed (partL p)).length = (sealed (partL q)).length := by
        obtain ⟨r, hr⟩ := hsp
        obtain ⟨r', hr'⟩ := hsq
        rw [← hr] at hr'
        have e1 : q.1 :: (Vy.enc q.2.size ++ (bs q.2 ++ four (Crc.more 0 (partL q)) ++ r')) = p.1 :: (Vy.enc p.2.size ++ (bs p.2 ++ four (Crc.more 0 (partL p)) ++ r)) := by
          simpa [sealed, partL] using hr'
        have e2 := (List.cons.inj e1).2
        have e3 : p.2.size = q.2.size := Vy.enc_prefix (List.prefix_append _ _) (e2 ▸ List.prefix_append _ _)
        rw [sealed_length, sealed_length, partL_length, partL_length, e3]
      rw [partsL_cons, partsL_cons, List.length_append, List.length_append, key, ih qs (l.drop (sealed (partL p)).length) (prefix_drop hp) (by rw [key]; exact prefix_drop hq) (by simpa using hn)
        (fun x hx => h1 x (List.mem_cons_of_mem _ hx)) (fun x hx => h2 x (List.mem_cons_of_mem _ hx))]
theorem whole_prefix {k k' : Nat} {ps qs : List WPart} {l : List Nat} (h1 : Good ps) (h2 : Good qs) (hp : wholeL k ps <+: l) (hq : wholeL k' qs <+: l) : (wholeL k ps).length = (wholeL k' qs).length := by
  have e1 : wholeL k ps = [83, 76, 87, k] ++ (Vy.enc ps.length ++ (partsL ps ++ four (Crc.more 0 (headL k ps)))) := by simp [wholeL, sealed, headL]
  have e2 : wholeL k' qs = [83, 76, 87, k'] ++ (Vy.enc qs.length ++ (partsL qs ++ four (Crc.more 0 (headL k' qs)))) := by simp [wholeL, sealed, headL]
  rw [e1] at hp ⊢
  rw [e2] at hq ⊢
  have p1 := prefix_drop hp
  have q1 := prefix_drop hq
  have p2 : Vy.enc ps.length <+: l.drop 4 := List.IsPrefix.trans (List.prefix_append _ _) p1
  have q2 : Vy.enc qs.length <+: l.drop 4 := List.IsPrefix.trans (List.prefix_append _ _) q1
  have hn : ps.length = qs.length := Vy.enc_prefix p2 q2
  rw [hn] at p1
  have p3 := List.IsPrefix.trans (List.prefix_append _ _) (prefix_drop p1)
  have q3 := List.IsPrefix.trans (List.prefix_append _ _) (prefix_drop q1)
  have := parts_prefix ps qs _ p3 q3 hn h1.small64 h2.small64
  simp only [List.length_append, four_length, hn, this, List.length_cons, List.length_nil]
end Go.Proofs.YtlfcfaceeloedaaDoor
