/- A quote, and back: plain lists. -/
import Derived.Test.YtgeefnmgejnemaaDoorUtfHalves0
namespace Go.Proofs.YtgeefnmgejnemaaDoor.Utf
open Go.Lib (encodeRune validD)
set_option linter.unusedSimpArgs false
set_option linter.unusedVariables false
/-- A rune that a text may have. -/
def Good (r : Nat) : Prop := r ≤ 1114111 ∧ (r < 55296 ∨ 57343 < r)
theorem u8n {n : Nat} (h : n < 256) : (UInt8.ofNat n).toNat = n := by rw [UInt8.toNat_ofNat']; omega
theorem enc1 {r : Nat} (h : r < 128) : encodeRune (r : Int) = [UInt8.ofNat r] := by
  unfold encodeRune
  rw [Lib.encodeRuneZ_one (by omega) (by omega)]
  rfl
theorem enc2 {r : Nat} (h : 128 ≤ r ∧ r < 2048) : encodeRune (r : Int) = [UInt8.ofNat (192 + r / 64), UInt8.ofNat (128 + r % 64)] := by
  unfold encodeRune
  rw [Lib.encodeRuneZ_two (by omega) (by omega), show (192 : Int) + (r : Int) / 64 = ((192 + r / 64 : Nat) : Int) by omega, show (128 : Int) + (r : Int) % 64 = ((128 + r % 64 : Nat) : Int) by omega]
  rfl
theorem enc3 {r : Nat} (h : 2048 ≤ r ∧ r < 65536) (hh : r < 55296 ∨ 57343 < r) : encodeRune (r : Int) = [UInt8.ofNat (224 + r / 4096), UInt8.ofNat (128 + r / 64 % 64), UInt8.ofNat (128 + r % 64)] := by
  unfold encodeRune
  rw [Lib.encodeRuneZ_three (by omega), show (224 : Int) + (r : Int) / 4096 = ((224 + r / 4096 : Nat) : Int) by omega, show (128 : Int) + (r : Int) / 64 % 64 = ((128 + r / 64 % 64 : Nat) : Int) by omega, show (128 : Int) + (r : Int) % 64 = ((128 + r % 64 : Nat) : Int) by omega]
  rfl
theorem enc4 {r : Nat} (h : 65536 ≤ r ∧ r ≤ 1114111) : encodeRune (r : Int) = [UInt8.ofNat (240 + r / 262144), UInt8.ofNat (128 + r / 4096 % 64), UInt8.ofNat (128 + r / 64 % 64), UInt8.ofNat (128 + r % 64)] := by
  unfold encodeRune
  rw [Lib.encodeRuneZ_four (by omega) (by omega), show (240 : Int) + (r : Int) / 262144 = ((240 + r / 262144 : Nat) : Int) by omega, show (128 : Int) + (r : Int) / 4096 % 64 = ((128 + r / 4096 % 64 : Nat) : Int) by omega, show (128 : Int) + (r : Int) / 64 % 64 = ((128 + r / 64 % 64 : Nat) : Int) by omega, show (128 : Int) + (r : Int) % 64 = ((128 + r % 64 : Nat) : Int) by omega]
  rfl
/-- A rune's bytes are read as the rune. -/
theorem at1_enc {r : Nat} (hg : Good r) (rest : List UInt8) : at1 (encodeRune (r : Int) ++ rest) = (r, (encodeRune (r : Int)).length) := by
  obtain ⟨h1, h2⟩ := hg
  by_cases c1 : r < 128
  · rw [enc1 c1]
    have := at1_ascii (l := [UInt8.ofNat r] ++ rest) (k := 0) (by simp) (by show (UInt8.ofNat r).toNat < 128; rw [u8n (by omega)]; exact c1)
    rw [List.drop_zero] at this
    rw [this]
    show ((UInt8.ofNat r).toNat, 1) = (r, 1)
    rw [u8n (by omega)]
  by_cases c2 : r < 2048
  · rw [enc2 ⟨by omega, c2⟩]
    have d1 : dd ([UInt8.ofNat (192 + r / 64), UInt8.ofNat (128 + r % 64)] ++ rest) 0 1 = 128 + r % 64 := by show (UInt8.ofNat (128 + r % 64)).toNat = _; exact u8n (by omega)
    have := at1_full (l := [UInt8.ofNat (192 + r / 64), UInt8.ofNat (128 + r % 64)] ++ rest) (k := 0) (c := 192 + r / 64) (n := 2) (a := r / 64) (least := 128) (by show _ = (UInt8.ofNat (192 + r / 64)).toNat; rw [u8n (by omega)]) (.inl ⟨by omega, by omega, rfl, by omega, rfl⟩) (by simp) (fun j j1 j2 => by
      have : j = 1 := by omega
      subst this
      rw [d1]; omega)
    rw [List.drop_zero, show 2 - 1 = 1 from rfl, acc1, d1] at this
    rw [this, if_neg (by omega)]
    refine Prod.ext ?_ rfl
    show _ = r
    omega
  by_cases c3 : r < 65536
  · rw [enc3 ⟨by omega, c3⟩ h2]
    have d1 : dd ([UInt8.ofNat (224 + r / 4096), UInt8.ofNat (128 + r / 64 % 64), UInt8.ofNat (128 + r % 64)] ++ rest) 0 1 = 128 + r / 64 % 64 := by show (UInt8.ofNat (128 + r / 64 % 64)).toNat = _; exact u8n (by omega)
    have d2 : dd ([UInt8.ofNat (224 + r / 4096), UInt8.ofNat (128 + r / 64 % 64), UInt8.ofNat (128 + r % 64)] ++ rest) 0 2 = 128 + r % 64 := by show (UInt8.ofNat (128 + r % 64)).toNat = _; exact u8n (by omega)
    have := at1_full (l := [UInt8.ofNat (224 + r / 4096), UInt8.ofNat (128 + r / 64 % 64), UInt8.ofNat (128 + r % 64)] ++ rest) (k := 0) (c := 224 + r / 4096) (n := 3) (a := r / 4096) (least := 2048) (by show _ = (UInt8.ofNat (224 + r / 4096)).toNat; rw [u8n (by omega)]) (.inr (.inl ⟨by omega, by omega, rfl, by omega, rfl⟩)) (by simp) (fun j j1 j2 => by
      have : j = 1 ∨ j = 2 := by omega
      rcases this with rfl | rfl
      · rw [d1]; omega
      · rw [d2]; omega)
    rw [List.drop_zero, show 3 - 1 = 2 from rfl, acc2, d1, d2] at this
    rw [this, if_neg (by omega)]
    refine Prod.ext ?_ rfl
    show _ = r
    omega
  · rw [enc4 ⟨by omega, h1⟩]
    have d1 : dd ([UInt8.ofNat (240 + r / 262144), UInt8.ofNat (128 + r / 4096 % 64), UInt8.ofNat (128 + r / 64 % 64), UInt8.ofNat (128 + r % 64)] ++ rest) 0 1 = 128 + r / 4096 % 64 := by show (UInt8.ofNat (128 + r / 4096 % 64)).toNat = _; exact u8n (by omega)
    have d2 : dd ([UInt8.ofNat (240 + r / 262144), UInt8.ofNat (128 + r / 4096 % 64), UInt8.ofNat (128 + r / 64 % 64), UInt8.ofNat (128 + r % 64)] ++ rest) 0 2 = 128 + r / 64 % 64 := by show (UInt8.ofNat (128 + r / 64 % 64)).toNat = _; exact u8n (by omega)
    have d3 : dd ([UInt8.ofNat (240 + r / 262144), UInt8.ofNat (128 + r / 4096 % 64), UInt8.ofNat (128 + r / 64 % 64), UInt8.ofNat (128 + r % 64)] ++ rest) 0 3 = 128 + r % 64 := by show (UInt8.ofNat (128 + r % 64)).toNat = _; exact u8n (by omega)
    have := at1_full (l := [UInt8.ofNat (240 + r / 262144), UInt8.ofNat (128 + r / 4096 % 64), UInt8.ofNat (128 + r / 64 % 64), UInt8.ofNat (128 + r % 64)] ++ rest) (k := 0) (c := 240 + r / 262144) (n := 4) (a := r / 262144) (least := 65536) (by show _ = (UInt8.ofNat (240 + r / 262144)).toNat; rw [u8n (by omega)]) (.inr (.inr ⟨by omega, by omega, rfl, by omega, rfl⟩)) (by simp) (fun j j1 j2 => by
      have : j = 1 ∨ j = 2 ∨ j = 3 := by omega
      rcases this with rfl | rfl | rfl
      · rw [d1]; omega
      · rw [d2]; omega
      · rw [d3]; omega)
    rw [List.drop_zero, show 4 - 1 = 3 from rfl, acc3, d1, d2, d3] at this
    rw [this, if_neg (by omega)]
    refine Prod.ext ?_ rfl
    show _ = r
    omega
/-- The first byte of a rune's: itself, or at least 128. -/
theorem enc_head {r : Nat} (hg : Good r) : ∃ c t, encodeRune (r : Int) = c :: t ∧ (c.toNat = r ∧ r < 128 ∨ 128 ≤ c.toNat) := by
  obtain ⟨h1, h2⟩ := hg
  by_cases c1 : r < 128
  · exact ⟨_, _, enc1 c1, .inl ⟨u8n (by omega), c1⟩⟩
  by_cases c2 : r < 2048
  · exact ⟨_, _, enc2 ⟨by omega, c2⟩, .inr (by rw [u8n (by omega)]; omega)⟩
  by_cases c3 : r < 65536
  · exact ⟨_, _, enc3 ⟨by omega, c3⟩ h2, .inr (by rw [u8n (by omega)]; omega)⟩
  · exact ⟨_, _, enc4 ⟨by omega, h1⟩, .inr (by rw [u8n (by omega)]; omega)⟩
theorem enc_ge {r : Nat} (hg : Good r) (h32 : 32 ≤ r) : ∀ c ∈ encodeRune (r : Int), 32 ≤ c.toNat := by
  obtain ⟨h1, h2⟩ := hg
  intro c hc
  by_cases c1 : r < 128
  · rw [enc1 c1] at hc
    obtain rfl := List.mem_singleton.1 hc
    rw [u8n (by omega)]; exact h32
  by_cases c2 : r < 2048
  · rw [enc2 ⟨by omega, c2⟩] at hc
    simp only [List.mem_cons, List.not_mem_nil, or_false] at hc
    rcases hc with rfl | rfl <;> (rw [u8n (by omega)]; omega)
  by_cases c3 : r < 65536
  · rw [enc3 ⟨by omega, c3⟩ h2] at hc
    simp only [List.mem_cons, List.not_mem_nil, or_false] at hc
    rcases hc with rfl | rfl | rfl <;> (rw [u8n (by omega)]; omega)
  · rw [enc4 ⟨by omega, h1⟩] at hc
    simp only [List.mem_cons, List.not_mem_nil, or_false] at hc
    rcases hc with rfl | rfl | rfl | rfl <;> (rw [u8n (by omega)]; omega)
theorem valid_enc {r : Nat} (hg : Good r) (rest : List UInt8) : validD (encodeRune (r : Int) ++ rest) = validD rest := by
  have h := at1_enc hg rest
  have h1 := (Lib.encodeRuneZ_length (r : Int)).1
  have h2 : (encodeRune (r : Int)).length = (Lib.encodeRuneZ (r : Int)).length := by unfold encodeRune; rw [List.length_map]
  rw [valid_at _ (by intro e; have := congrArg List.length e; rw [List.length_append, List.length_nil] at this; omega), h]
  simp only
  rw [if_neg (by omega), List.drop_left]
theorem valid_runes : ∀ rs : List Nat, (∀ r ∈ rs, Good r) → validD (rs.flatMap fun r : Nat => encodeRune (r : Int)) = true
  | [], _ => by rfl
  | r :: rs, h => by
    rw [List.flatMap_cons, valid_enc (h r (by simp))]
    exact valid_runes rs fun x hx => h x (by simp [hx])
/-- How a rune stands in a quote. -/
theorem quoteR_cases (r : Nat) : (∃ c, escOf r = some c ∧ quoteR r = [92, c] ∧ unEsc c.toNat = some r) ∨ (r < 32 ∧ quoteR r = escB false r) ∨ (32 ≤ r ∧ r ≠ 34 ∧ r ≠ 92 ∧ quoteR r = encodeRune (r : Int)) := by
  cases h : escOf r with
  | some c =>
    refine .inl ⟨c, rfl, by unfold quoteR; rw [h], ?_⟩
    unfold escOf at h
    repeat' split at h
    all_goals first
      | (cases h; done)
      | (injection h with h; subst h; subst_vars; decide)
  | none =>
    by_cases h32 : r < 32
    · refine .inr (.inl ⟨h32, ?_⟩)
      unfold quoteR
      rw [h]
      simp only
      rw [if_pos h32]
      unfold escB digits
      have e0 : r / 4096 % 16 = 0 := by omega
      have e1 : r / 256 % 16 = 0 := by omega
      have e2 : r / 16 % 16 = r / 16 := by omega
      rw [e0, e1, e2]
      rfl
    · refine .inr (.inr ⟨by omega, ?_, ?_, ?_⟩)
      · rintro rfl; exact absurd h (by decide)
      · rintro rfl; exact absurd h (by decide)
      · unfold quoteR
        rw [h]
        simp only
        rw [if_neg h32]
/-- What stands for a rune is read as it. -/
theorem step_quote {r : Nat} (hg : Good r) (rest : List UInt8) : stepL (quoteR r ++ rest) = (r, (quoteR r).length, 0) ∧ ∃ c t, quoteR r = c :: t ∧ c.toNat ≠ 34 := by
  rcases quoteR_cases r with ⟨c, _, hq, hu⟩ | ⟨h32, hq⟩ | ⟨h32, n34, n92, hq⟩
  · rw [hq]
    refine ⟨?_, _, _, rfl, by decide⟩
    have e : stepL ([92, c] ++ rest) = escapeL ([92, c] ++ rest) := by
      unfold stepL
      rw [if_neg (by simp [List.getD]), if_pos (by simp [List.getD])]
    rw [e, escapeL_let (r := r) (by simp) (by simpa [List.getD] using hu)]
    rfl
  · rw [hq]
    refine ⟨?_, _, _, rfl, by decide⟩
    rw [stepL_esc, escapeL_one (fourL_esc false r rest (by omega)) (by omega)]
    rfl
  · rw [hq]
    obtain ⟨c, t, he, hc⟩ := enc_head hg
    refine ⟨?_, c, t, he, by omega⟩
    have h1 := at1_enc hg rest
    have e : stepL (encodeRune (r : Int) ++ rest) = plainL (encodeRune (r : Int) ++ rest) := by
      rw [he]
      unfold stepL
      have : ((c :: t ++ rest).getD 0 0) = c := by simp [List.getD]
      rw [this, if_neg (by simp; omega), if_neg (by omega)]
    have h2 : 0 < (encodeRune (r : Int)).length := by rw [he]; simp
    rw [e]
    unfold plainL
    rw [h1]
    simp only
    rw [if_neg (by omega)]
theorem quoteR_ge {r : Nat} (hg : Good r) : ∀ c ∈ quoteR r, 32 ≤ c.toNat := by
  rcases quoteR_cases r with ⟨c, he, hq, hu⟩ | ⟨h32, hq⟩ | ⟨h32, n34, n92, hq⟩
  · rw [hq]
    intro x hx
    simp only [List.mem_cons, List.not_mem_nil, or_false] at hx
    rcases hx with rfl | rfl
    · decide
    · unfold escOf at he
      repeat' split at he
      all_goals first
        | (cases he; done)
        | (injection he with he; subst he; decide)
  · rw [hq]
    intro x hx
    have h1 : ∀ k, k < 16 → 32 ≤ ((digits false).getD k 0).toNat := fun k hk => by
      have : k = 0 ∨ k = 1 ∨ k = 2 ∨ k = 3 ∨ k = 4 ∨ k = 5 ∨ k = 6 ∨ k = 7 ∨ k = 8 ∨ k = 9 ∨ k = 10 ∨ k = 11 ∨ k = 12 ∨ k = 13 ∨ k = 14 ∨ k = 15 := by omega
      rcases this with rfl | rfl | rfl | rfl | rfl | rfl | rfl | rfl | rfl | rfl | rfl | rfl | rfl | rfl | rfl | rfl <;> decide
    unfold escB at hx
    simp only [List.mem_cons, List.not_mem_nil, or_false] at hx
    rcases hx with rfl | rfl | rfl | rfl | rfl | rfl
    · decide
    · decide
    · exact h1 _ (by omega)
    · exact h1 _ (by omega)
    · exact h1 _ (by omega)
    · exact h1 _ (by omega)
  · rw [hq]; exact enc_ge hg h32
/-- A quote's inside, read on from its beginning. -/
theorem back_go : ∀ (rs : List (Nat × Nat)), (∀ x ∈ rs, Good x.2) → ∀ (A B out : List UInt8), unqGo (A ++ (quoteOf rs ++ 34 :: B)) A.length out = (out ++ rs.flatMap (fun x => encodeRune (x.2 : Int)), A.length + (quoteOf rs).length + 1, 0)
  | [], _, A, B, out => by
    have e : quoteOf [] ++ 34 :: B = 34 :: B := rfl
    rw [e, unqGo_end (by simp) (by simp [List.getD])]
    simp [quoteOf]
  | x :: rs, h, A, B, out => by
    have hg := h x (by simp)
    have e : A ++ (quoteOf (x :: rs) ++ 34 :: B) = A ++ (quoteR x.2 ++ (quoteOf rs ++ 34 :: B)) := by simp [quoteOf]
    have e2 : A ++ (quoteR x.2 ++ (quoteOf rs ++ 34 :: B)) = (A ++ quoteR x.2) ++ (quoteOf rs ++ 34 :: B) := by simp
    obtain ⟨hs, c, t, hq, hc⟩ := step_quote hg (quoteOf rs ++ 34 :: B)
    have hd : (A ++ (quoteR x.2 ++ (quoteOf rs ++ 34 :: B))).drop A.length = quoteR x.2 ++ (quoteOf rs ++ 34 :: B) := List.drop_left ..
    have hlen : 0 < (quoteR x.2).length := by rw [hq]; simp
    have hget : (A ++ (quoteR x.2 ++ (quoteOf rs ++ 34 :: B))).getD A.length 0 = c := by rw [hq]; simp [List.getD]
    rw [e, unq_go1 (k := A.length) (by rw [hget]; exact fun h => hc h.2) (by rw [hd]; exact hs) (by omega) (by simp; omega), e2]
    have ih := back_go rs (fun y hy => h y (by simp [hy])) (A ++ quoteR x.2) B (out ++ encodeRune (x.2 : Int))
    rw [List.length_append] at ih
    rw [ih, List.flatMap_cons, List.append_assoc]
    have : (quoteOf (x :: rs)).length = (quoteR x.2).length + (quoteOf rs).length := by simp [quoteOf]
    rw [this]
    refine Prod.ext rfl (Prod.ext ?_ rfl)
    simp only
    omega
theorem runesL_good' (l : List UInt8) : ∀ x ∈ runesL l, Good x.2 := runesL_good l
theorem quote_back (s A B : List UInt8) (hv : validD s = true) : unquoteL (A ++ ((quoteL s).1 ++ B)) (A.length : Int) = (s, (A.length : Int) + ((quoteL s).1.length : Int), 0) ∧ (quoteL s).2 = 0 := by
  have hq : quoteL s = (34 :: (quoteOf (runesL s) ++ [34]), 0) := by unfold quoteL; rw [if_pos hv]
  have hr : (runesL s).flatMap (fun x => encodeRune (x.2 : Int)) = s := by
    have := runes_encode s s.length 0 (by omega) (by rw [List.drop_zero]; exact hv)
    rw [List.drop_zero] at this
    exact this
  refine ⟨?_, by rw [hq]⟩
  rw [hq]
  simp only
  have e : A ++ (34 :: (quoteOf (runesL s) ++ [34]) ++ B) = (A ++ [34]) ++ (quoteOf (runesL s) ++ 34 :: B) := by simp
  have hg := back_go (runesL s) (runesL_good' s) (A ++ [34]) B []
  rw [hr, ← e] at hg
  have h1 : (A ++ [34]).length = A.length + 1 := by simp
  rw [h1] at hg
  unfold unquoteL
  rw [if_neg (by simp; omega), show ((A.length : Int)).toNat = A.length from Int.toNat_natCast _, if_neg (by simp [List.getD]; omega), hg]
  refine Prod.ext rfl (Prod.ext ?_ rfl)
  simp
  omega
theorem quote_ge (s : List UInt8) : ∀ c ∈ (quoteL s).1, 32 ≤ c.toNat := by
  intro c hc
  unfold quoteL at hc
  split at hc
  · simp only [List.mem_cons, List.mem_append, List.not_mem_nil, or_false] at hc
    rcases hc with rfl | hc | rfl
    · decide
    · unfold quoteOf at hc
      obtain ⟨x, hx, hc⟩ := List.mem_flatMap.1 hc
      exact quoteR_ge (runesL_good' s x hx) c hc
    · decide
  · simp at hc
theorem stepL_rune {l : List UInt8} (h : (stepL l).2.2 = 0) : Good (stepL l).1 := by
  have h0 := stepL_good h
  refine ⟨h0.1, ?_⟩
  by_cases h1 : l = [] ∨ (l.getD 0 0).toNat < 32
  · have e : stepL l = (0, 1, 4) := if_pos h1
    rw [e] at h; cases h
  by_cases h2 : (l.getD 0 0).toNat = 92
  · have e : stepL l = escapeL l := by unfold stepL; rw [if_neg h1, if_pos h2]
    rw [e] at h ⊢
    by_cases h2 : l.length < 2
    · have e : escapeL l = (0, 0, 4) := if_pos h2
      rw [e] at h; cases h
    cases he : unEsc (l.getD 1 0).toNat with
    | some r =>
      rw [escapeL_let h2 he]
      simp only
      unfold unEsc at he
      repeat' split at he
      all_goals first
        | (cases he; done)
        | (injection he with he; omega)
    | none =>
      cases hf : fourL l with
      | none => rw [escapeL_no hf (.inr he)] at h; cases h
      | some r =>
        by_cases h1 : r < 55296 ∨ 57343 < r
        · rw [escapeL_one hf h1]; exact h1
        · cases hg : fourL (l.drop 6) with
          | none => rw [escapeL_half hf h1 (.inl hg)] at h; cases h
          | some q =>
            by_cases h5 : 56320 ≤ r ∨ q < 56320 ∨ 57343 < q
            · rw [escapeL_half hf h1 (.inr ⟨q, hg, h5⟩)] at h; cases h
            · rw [escapeL_pair hf h1 hg h5]
              simp only
              omega
  · have e : stepL l = plainL l := by unfold stepL; rw [if_neg h1, if_neg h2]
    rw [e] at h ⊢
    by_cases e : (at1 l).2 = 0
    · have : plainL l = (0, 0, 3) := if_pos e
      rw [this] at h; cases h
    · have e2 : plainL l = ((at1 l).1, (at1 l).2, 0) := if_neg e
      rw [e2]
      exact at1_nohalf l
/-- What was read is a text. -/
theorem unqGo_runes (l : List UInt8) : ∀ n k, l.length - k ≤ n → ∀ (rs : List Nat), (∀ r ∈ rs, Good r) → (unqGo l k (rs.flatMap fun r : Nat => encodeRune (r : Int))).2.2 = 0 → ∃ qs : List Nat, (∀ r ∈ qs, Good r) ∧ (unqGo l k (rs.flatMap fun r : Nat => encodeRune (r : Int))).1 = qs.flatMap fun r : Nat => encodeRune (r : Int)
  | n, k, hn, rs, hrs, h => by
    by_cases h1 : k < l.length ∧ (l.getD k 0).toNat = 34
    · rw [unqGo_end h1.1 h1.2]; exact ⟨rs, hrs, rfl⟩
    by_cases h2 : (stepL (l.drop k)).2.2 = 0
    · have hg := stepL_good h2
      rw [List.length_drop] at hg
      have hk : k < l.length := by omega
      rw [unqGo_on h1 h2 (by omega) hk] at h ⊢
      have e : (rs.flatMap fun r : Nat => encodeRune (r : Int)) ++ encodeRune ((stepL (l.drop k)).1 : Int) = (rs ++ [(stepL (l.drop k)).1]).flatMap fun r : Nat => encodeRune (r : Int) := by simp
      rw [e] at h ⊢
      match n, hn with
      | 0, hn => omega
      | n + 1, hn =>
        refine unqGo_runes l n _ (by omega) _ (fun r hr => ?_) h
        rcases List.mem_append.1 hr with hr | hr
        · exact hrs r hr
        · obtain rfl := List.mem_singleton.1 hr
          exact stepL_rune h2
    · rw [unqGo_bad h1 h2] at h
      exact absurd h h2
theorem unqGo_len (l : List UInt8) : ∀ n k, l.length - k ≤ n → ∀ out : List UInt8, (unqGo l k out).1.length ≤ out.length + (l.length - k)
  | n, k, hn, out => by
    by_cases h1 : k < l.length ∧ (l.getD k 0).toNat = 34
    · rw [unqGo_end h1.1 h1.2]; simp
    by_cases h2 : (stepL (l.drop k)).2.2 = 0
    · have hg := stepL_good h2
      have he := stepL_enc h2
      rw [List.length_drop] at hg
      have hk : k < l.length := by omega
      rw [unqGo_on h1 h2 (by omega) hk]
      match n, hn with
      | 0, hn => omega
      | n + 1, hn =>
        have := unqGo_len l n (k + (stepL (l.drop k)).2.1) (by omega) (out ++ encodeRune ((stepL (l.drop k)).1 : Int))
        rw [List.length_append] at this
        omega
    · rw [unqGo_bad h1 h2]; simp
theorem unquote_len {l u : List UInt8} {a p : Int} {e : Nat} (h : unquoteL l a = (u, p, e)) : u.length ≤ l.length := by
  unfold unquoteL at h
  split at h
  · cases h; simp
  · split at h
    · cases h; simp
    · have h1 := congrArg (fun x => x.1) h
      simp only at h1
      have := unqGo_len l l.length (a.toNat + 1) (by omega) []
      rw [h1, List.length_nil] at this
      omega
theorem unquote_valid {l u : List UInt8} {a p : Int} (h : unquoteL l a = (u, p, 0)) : validD u = true := by
  unfold unquoteL at h
  split at h
  · cases h
  · split at h
    · cases h
    · have h3 := congrArg (fun x => x.2.2) h
      have h1 := congrArg (fun x => x.1) h
      simp only at h3 h1
      obtain ⟨qs, hq, he⟩ := unqGo_runes l l.length (a.toNat + 1) (by omega) [] (by simp) h3
      have e : ([] : List Nat).flatMap (fun r : Nat => encodeRune (r : Int)) = [] := rfl
      rw [e, h1] at he
      rw [he]
      exact valid_runes qs hq
end Go.Proofs.YtgeefnmgejnemaaDoor.Utf
