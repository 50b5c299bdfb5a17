import Derived.Test.YtgeefnmgejnemaaDoorUtfQuoteMem
namespace Go.Proofs.YtgeefnmgejnemaaDoor
open Go.RowKit Go.Shelf Utf
open Go.Lib (validD encodeRune byteCells byteCells_append byteCells_encodeRune byteCells_length)
set_option linter.unusedSimpArgs false
set_option linter.unusedVariables false
attribute [local go_sem] Oper.semAt_some
/-- What a quote answers. -/
def Quoted (w : World) (s : List UInt8) (e : Ending) (w' : World) : Prop := e = .returned (.tuple #[.string (bs (quoteL s).1), .int .i64 ((quoteL s).2 : Int)]) ∧ Below w.heap.size w w'
set_option maxRecDepth 100000 in
set_option maxHeartbeats 2000000 in
theorem quote_bad (s : List UInt8) (w : World) (hs : s.length ≤ 1099511627776) (hT : Tabs w) (hv : validD s = false) :
    CallsIn Fence.wide 5 Tryd.prog 15 #[.string (bs s)] w (Quoted w s) := by
  have HF : Hid (∀ w', Below w.heap.size w w' → Quoted w s (.returned (.tuple #[.string { data := #[] }, .int .i64 3])) w') := fun w' h => ⟨by unfold quoteL; rw [hv]; rfl, h⟩
  have HV := Lib.hid (utfValid_any (bs s) w (by rw [bs_size]; omega) hT)
  have HE : Hid (validD (bs s).data.toList = false) := hv
  refine callsIn_of_wp_marks Tryd.func15 rfl trivial ?_ rfl
  simp only [Tryd.ntmps15, List.size_toArray, List.length_cons, List.length_nil, Nat.reduceAdd, Nat.reduceSub, Array.replicate_succ, Array.replicate_zero, List.push_toArray, List.append_toArray, List.nil_append, List.cons_append]
  gi_wp2_with (refine ⟨trivial, ?_⟩; gi_at_call 9; refine (callsIn_wide.2 HV.out).mono ?_; rintro e w2 ⟨rfl, b2⟩; rw [HE.out])
  exact ⟨.tuple #[.string { data := #[] }, .int .i64 3], by simp [results, Tryd.results15, go_sem], HF.out _ b2⟩
set_option maxRecDepth 100000 in
set_option maxHeartbeats 2000000 in
theorem quote_plain (s : List UInt8) (w : World) (hs : s.length ≤ 1099511627776) (hT : Tabs w) (hv : validD s = true) (hq : strangeL s = false) :
    CallsIn Fence.wide 5 Tryd.prog 15 #[.string (bs s)] w (Quoted w s) := by
  have HF : Hid (∀ w', Below w.heap.size w w' → Quoted w s (.returned (.tuple #[.string (bs (34 :: (s ++ [34]))), .int .i64 0])) w') := fun w' h => ⟨by rw [quoteL_plain hv hq]; rfl, h⟩
  have HV := Lib.hid (utfValid_any (bs s) w (by rw [bs_size]; omega) hT)
  have HE : Hid (validD (bs s).data.toList = true) := hv
  have HS : Hid (∀ V, Below w.heap.size w V → Calls Tryd.prog 25 #[.string (bs s)] V fun e V' => e = .returned (.bool false) ∧ Below V.heap.size V V') := fun V hV => by
    have := strange_utf s V (by omega) (tabs_below hT hV)
    rwa [hq] at this
  have a1 := fun W => add_run (P := Tryd.prog) { data := #[34] } (bs s) (by rw [bs_size]; show 1 + _ ≤ _; omega) (bs (34 :: s)) (by apply ByteArray.ext; simp [bs]) W
  have a2 := fun W => add_run (P := Tryd.prog) (bs (34 :: s)) { data := #[34] } (by rw [bs_size, List.length_cons]; show _ + 1 ≤ _; omega) (bs (34 :: (s ++ [34]))) (by apply ByteArray.ext; simp [bs]) W
  refine callsIn_of_wp_marks Tryd.func15 rfl trivial ?_ rfl
  simp only [Tryd.ntmps15, List.size_toArray, List.length_cons, List.length_nil, Nat.reduceAdd, Nat.reduceSub, Array.replicate_succ, Array.replicate_zero, List.push_toArray, List.append_toArray, List.nil_append, List.cons_append]
  gi_wp2_with (refine ⟨trivial, ?_⟩; gi_at_call 9; refine (callsIn_wide.2 HV.out).mono ?_; rintro e w2 ⟨rfl, b2⟩; rw [HE.out])
  gi_wp2_with (refine ⟨trivial, ?_⟩; gi_at_call 25; refine (callsIn_wide.2 (HS.out _ b2)).mono ?_; rintro e w3 ⟨rfl, b3⟩)
  have b4 := b2.trans (b3.mono b2.size)
  exact ⟨.tuple #[.string (bs (34 :: (s ++ [34]))), .int .i64 0], by simp [results, Tryd.results15, go_sem], HF.out _ b4⟩
theorem bld_new (B : Nat) (w : World) (h : B ≤ w.heap.size) : Bld B w.heap.size [] (w.alloc (.cells #[.pointer none, .slice none 0 0] 55)) :=
  .inl ⟨h, .slice none 0 0, heap_alloc_new w _, ⟨rfl, .inl ⟨rfl, rfl⟩⟩, by simp [Value.ownBlock]⟩
theorem esc_byte {r : Nat} {c : UInt8} (h : escOf r = some c) : encodeRune (c.toNat : Int) = [c] ∧ c.toNat ≤ 127 := by
  unfold escOf at h
  repeat' split at h
  all_goals first
    | (cases h; done)
    | (injection h with h; subst h; exact ⟨by decide, by decide⟩)
theorem low_bits : ∀ r : Nat, r < 32 → bits BinOp.and IntKind.i32 (r : Int) 15 = ((r % 16 : Nat) : Int) := by decide
theorem rune_wf {r : Nat} (h : r ≤ 1114111) : (Lit.int .i32 (r : Int)).wf = true := by
  have h1 : IntKind.i32.min = -2147483648 := rfl
  have h2 : IntKind.i32.max = 2147483647 := rfl
  simp only [Lit.wf, h1, h2, Bool.and_eq_true, decide_eq_true_eq]
  omega
set_option maxRecDepth 100000 in
set_option maxHeartbeats 2000000 in
theorem quote_odd (s : List UInt8) (w : World) (hs : s.length ≤ 1099511627776) (hT : Tabs w) (hv : validD s = true) (hq : strangeL s = true) :
    CallsIn Fence.wide 5 Tryd.prog 15 #[.string (bs s)] w (Quoted w s) := by
  have HF : Hid (∀ w', Below w.heap.size w w' → Quoted w s (.returned (.tuple #[.string (bs ((34 :: quoteOf (runesL s)) ++ [34])), .int .i64 0])) w') := fun w' h => ⟨by unfold quoteL; rw [hv]; rfl, h⟩
  have HV := Lib.hid (utfValid_any (bs s) w (by rw [bs_size]; omega) hT)
  have HE : Hid (validD (bs s).data.toList = true) := hv
  have HS : Hid (∀ V, Below w.heap.size w V → Calls Tryd.prog 25 #[.string (bs s)] V fun e V' => e = .returned (.bool true) ∧ Below V.heap.size V V') := fun V hV => by
    have := strange_utf s V (by omega) (tabs_below hT hV)
    rwa [hq] at this
  have HM : Hid (∀ V, Calls Tryd.prog 26 #[] V (MarkMap V)) := marks_any
  refine callsIn_of_wp_marks Tryd.func15 rfl trivial ?_ rfl
  simp only [Tryd.ntmps15, List.size_toArray, List.length_cons, List.length_nil, Nat.reduceAdd, Nat.reduceSub, Array.replicate_succ, Array.replicate_zero, List.push_toArray, List.append_toArray, List.nil_append, List.cons_append]
  gi_wp2_with (refine ⟨trivial, ?_⟩; gi_at_call 9; refine (callsIn_wide.2 HV.out).mono ?_; rintro e w2 ⟨rfl, b2⟩; rw [HE.out])
  gi_wp2_with (refine ⟨trivial, ?_⟩; gi_at_call 25; refine (callsIn_wide.2 (HS.out _ b2)).mono ?_; rintro e w3 ⟨rfl, b3⟩)
  gi_wp2_with (refine ⟨trivial, ?_⟩; gi_at_call 26; refine (callsIn_wide.2 (HM.out w3)).mono ?_; rintro e w4 ⟨rfl, hm4, b4⟩)
  obtain ⟨W4, hW4⟩ : ∃ W4, (w4.alloc (.cells #[.map (some w3.heap.size)] 50)).alloc (.cells #[.pointer none, .slice none 0 0] 55) = W4 := ⟨_, rfl⟩
  have z4 : W4.heap.size = w4.heap.size + 2 := by rw [← hW4]; simp
  have l34 : w3.heap.size < w4.heap.size := by
    obtain ⟨es, clock, hb, _⟩ := hm4
    exact at_lt hb
  have x4 : W4.heap[w4.heap.size]? = some (.cells #[.map (some w3.heap.size)] 50 (0, 0)) := by rw [← hW4]; exact heap_alloc2_old w4 _ _
  have u4 : Bld (w4.heap.size + 1) (w4.heap.size + 1) [] W4 := by
    have := bld_new (w4.heap.size + 1) (w4.alloc (.cells #[.map (some w3.heap.size)] 50)) (by rw [World.size_alloc]; omega)
    rw [World.size_alloc, hW4] at this
    exact this
  have B4 : Below w4.heap.size w4 W4 := by rw [← hW4]; exact ((Below.refl _ w4).alloc (Nat.le_refl _) _).alloc (by simp) _
  have m4 : RuneMap W4 w3.heap.size 8 markD := by
    obtain ⟨es, clock, hb, F, hs, hD⟩ := hm4
    exact ⟨es, clock, (B4.block _ l34).trans hb, F, hs, hD⟩
  have b5 : Below w.heap.size w W4 := ((b2.trans (b3.mono b2.size)).trans (b4.mono (by have := b2.size; have := b3.size; omega))).trans (B4.mono (by have := b2.size; have := b3.size; omega))
  have HW := Lib.hid (wbyte_k (w4.heap.size + 1) (w4.heap.size + 1) [] 34 W4 u4 (by simp) (by omega))
  rw [hW4]
  clear hW4 u4 hm4
  gi_wp2_with (refine ⟨trivial, ?_⟩; gi_at_call 27; refine (callsIn_wide.2 HW.out).mono ?_; rintro e w5 ⟨rfl, u5, B5, O5⟩)
  gi_wp2_with (refine ⟨trivial, ?_⟩; gi_at_call 13; refine (callsIn_wide.2 (runes_any _ _)).mono ?_; rintro e w6 ⟨rfl, rfl⟩)
  clear HW
  obtain ⟨W6, hW6⟩ : ∃ W6, w5.alloc (.cells #[.string (bs s)] 9) = W6 := ⟨_, rfl⟩
  rw [hW6]
  have z5 := B5.size
  have hB0 : Below w.heap.size w W6 := by rw [← hW6]; exact (b5.trans (B5.mono (by have := b5.size; have := b2.size; have := b3.size; omega))).alloc (by have := b5.size; omega) _
  have hQ0 : QI w3.heap.size w4.heap.size w5.heap.size s [34] W6 := by
    have B6 : Below w5.heap.size w5 W6 := by rw [← hW6]; exact (Below.refl _ w5).alloc (Nat.le_refl _) _
    obtain ⟨es, clock, hb, F, hs, hD⟩ := m4
    refine ⟨⟨l34, by omega⟩, ?_, ⟨es, clock, (B6.block _ (by omega)).trans ((B5.block _ (by omega)).trans hb), F, hs, hD⟩, (B6.block _ (by omega)).trans ((B5.block _ (by omega)).trans x4), by rw [← hW6]; exact heap_alloc_new w5 _⟩
    rw [← hW6]
    exact u5.b.alloc _
  have z6 : W6.heap.size = w5.heap.size + 1 := by rw [← hW6]; simp
  have hn0 : w.heap.size ≤ w4.heap.size + 1 := by have := b2.size; have := b3.size; omega
  clear hW6 u5 O5 x4 m4 B4 B5 b5 b4 b3
  refine wpIn_rangeFunc_ownF (F := Fence.wide) rfl (by omega) (gf := 23) (lb := #[.pointer (some ⟨w5.heap.size, 0, none⟩)]) rfl trivial (enters_of Tryd.func23 (by kernel_rfl) rfl)
    (runes_stops_lid 4 (by omega) w5.heap.size w.heap.size s (by omega) W6 hB0.size hQ0.txt fun V hV => tabs_below hT (hB0.trans hV)) (fun h k => Kpt.t h k) (kpt_b (by omega) hB0.size) (Below.refl _ _) (fun _ => rfl)
    (fun pre W => QI w3.heap.size w4.heap.size w5.heap.size s (34 :: quoteLid pre) W ∧ Below w.heap.size w W)
    (fun c pre W => False)
    (fun pre A B row hs hg hr => ⟨hs.1.own hg (fun r e => (hr r e).2) (fun r e => by have := (hr r e).1; omega), ownFrom_below (Nat.le_refl _) hB0.size pre A B row hs.2 hg hr⟩)
    (fun c => fun pre A B row hs hg hr => hs)
    ⟨hQ0, hB0⟩
    (fun x => { tmps := #[Value.string (bs s), undef, Value.string { data := #[] }, Value.int IntKind.i64 0,
                Value.pointer (some ⟨w4.heap.size, 0, none⟩), Value.pointer (some ⟨w4.heap.size + 1, 0, none⟩), undef, .int .i32 (lid x.2 : Int), undef, undef,
                Value.string (bs s), Value.bool true, Value.bool false, Value.string (bs s), Value.bool true,
                Value.bool false, undef, undef, undef, Value.map (some w3.heap.size), .nilIface, Value.string (bs s), Value.func (Fn.func 23) #[] #[Value.pointer (some ⟨w5.heap.size, 0, none⟩)], .int .i64 (x.1 : Int), .int .i32 (lid x.2 : Int), undef, undef, undef, undef, undef, undef, undef, undef, undef, undef, undef, undef, undef, undef,
                undef, undef, undef, undef, undef, undef, undef, undef, undef, undef, undef, undef, undef], defers := [] }) ?assign ?body ?done ?stop
  case assign =>
    intro l x W K hK
    gi_wp2
    exact hK
  case stop => exact fun D c pre W _ _ h _ => h.elim
  case done =>
    rintro D ys W hD rfl ⟨hQ, hB⟩ hK
    have hl := quoteLid_len (runesL s)
    have hl2 := runesL_length s
    have h34 : ((34 : UInt8).toNat : Int) = 34 := by decide
    have HQ := Lib.hid (qbyte hQ.start (by rw [List.length_cons]; omega) 34 34 (by decide))
    have HD : Hid (∀ l' W', QS w3.heap.size w4.heap.size w5.heap.size s W l' W' → W'.heap[D]? = some (.deferred (some [])) ∧ Below w.heap.size w W') := fun l' W' h =>
      ⟨(QS.others hQ h).same D _ hK rfl, hB.trans (h.2.1.mono hn0)⟩
    have HN : Hid (w.heap.size ≤ D ∧ w.heap.size ≤ w4.heap.size + 1) := ⟨by have := hB0.size; omega, hn0⟩
    have HL : Hid ((34 :: quoteLid (runesL s)) ++ [34] = (34 :: quoteOf (runesL s)) ++ [34]) := by rw [Hid, quoteLid_runes]
    clear hl hl2 hQ hB hK hB0 hn0
    gi_wp2_with (refine ⟨trivial, ?_⟩; gi_at_call 27; refine (callsIn_wide.2 HQ.out).mono ?_; rintro e w7 ⟨rfl, h7⟩)
    have HS7 := Lib.hid (Tryd.Builder_String_any_k (w4.heap.size + 1) (w4.heap.size + 1) _ w7 h7.1.bld (by have := h7.1.size; omega))
    gi_wp2_with (refine ⟨trivial, ?_⟩; gi_at_call 30; refine (callsIn_wide.2 HS7.out).mono ?_; rintro e w8 ⟨rfl, u8, B8, O8⟩)
    obtain ⟨d7, k7⟩ := HD.out _ _ h7
    have d8 : w8.heap[D]? = some (.deferred (some [])) := O8 D _ d7 (by intro e; injection e with e; omega) (by intro c fz e; cases e)
    have k8 := (k7.trans (B8.mono HN.out.2)).trans (belowK_b (w := w) (by have := (k7.trans (B8.mono HN.out.2)).size; omega) _ D _ (.deferred none) HN.out.1 d8 rfl rfl)
    have hv8 : ({ data := (34 :: (quoteLid (runesL s) ++ [34])).toArray } : ByteArray) = bs ((34 :: quoteOf (runesL s)) ++ [34]) := by rw [← HL.out]; rfl
    rw [hv8]
    refine ⟨by simp, .inl ⟨_, _, rfl, run_takeDeferred d8, ?_⟩⟩
    exact ⟨.tuple #[.string (bs ((34 :: quoteOf (runesL s)) ++ [34])), .int .i64 0], by simp [results, Tryd.results15, go_sem], HF.out _ k8⟩
  case body =>
    rintro l2 pre ⟨k, r0⟩ W ⟨hQ, hB⟩ hlen
    obtain ⟨r, hr⟩ : ∃ r, r = lid r0 := ⟨_, rfl⟩
    have hr1 : r ≤ 1114111 := by rw [hr]; exact lid_le _
    have hl := quoteLid_len pre
    have hl2 := runesL_length s
    have hl3 : (34 :: quoteLid pre).length ≤ 1 + 6 * 1099511627776 := by rw [List.length_cons]; omega
    have HP : Hid (∀ a W', QS w3.heap.size w4.heap.size w5.heap.size s W ((34 :: quoteLid pre) ++ quoteR r) W' → ownPostK (Kpt w5.heap.size w.heap.size)
        (fun pre W => QI w3.heap.size w4.heap.size w5.heap.size s (34 :: quoteLid pre) W ∧ Below w.heap.size w W) (fun c pre W => False) (pre ++ [(k, r0)]) W .normal a W') := fun a W' h =>
      ⟨QS.others hQ h, QS.kpt hQ hn0 h, by rw [quoteLid_snoc, ← hr]; exact h.1, hB.trans (h.2.1.mono hn0)⟩
    have hc := hQ.cell
    have hown := hQ.map
    have HQ := Lib.hid hQ.start
    simp only [← hr]
    clear hQ hB hB0 hl hl2 hlen
    cases he : escOf r with
    | some c =>
      have hq : quoteR r = [92, c] := by unfold quoteR; rw [he]
      obtain ⟨hmk, hat⟩ := mark_has he
      obtain ⟨he1, he2⟩ := esc_byte he
      have HA : Hid (∀ W', QS w3.heap.size w4.heap.size w5.heap.size s W ((34 :: quoteLid pre) ++ [92]) W' → Calls Tryd.prog 28 #[.pointer (some ⟨w4.heap.size + 1, 0, none⟩), .int .i32 (c.toNat : Int)] W' fun e W'' => (∃ v, e = .returned v) ∧ QS w3.heap.size w4.heap.size w5.heap.size s W ((34 :: quoteLid pre) ++ quoteR r) W'') := fun W' h => by
        have := qrune h (by rw [List.length_append]; simp only [List.length_singleton]; omega) c.toNat (by omega)
        rw [he1, List.append_assoc] at this
        rw [hq]; exact this
      have HQ1 := Lib.hid (qbyte HQ.out (by omega) 92 92 (by decide))
      have hwf : (Lit.int .i32 (r : Int)).wf = true := rune_wf hr1
      have HAT : Hid (∀ c0 : Int, markD.atKey (runeL (r : Int)) (.lit (.int .i32 0)) = .lit (.int .i32 c0) → c0 = (c.toNat : Int)) := fun c0 h => by
        rw [hat] at h
        unfold runeL at h
        injection h with h; injection h with _ h; exact h.symm
      have HM1 := Lib.hid hmk
      clear hq he he1 hat hmk hr hl3
      gi_wp2_with (gi_at_lookup; go_loud (refine wpListIn_lookup_own_ok_int _ rfl _ _ 50 rfl 21 21 .i32 runeLaw Tryd.underlying50 Tryd.underlying21 (Tryd.zeroValue21 _) w3.heap.size 8 _ rfl hown _ (runeL (r : Int)) rfl (Maps.keyOf_int_mk Tryd.underlying21 hwf) ?_; intro c0 hat0 hwc0; obtain rfl := HAT.out c0 hat0; rw [HM1.out]))
      gi_wp2_with (refine ⟨trivial, ?_⟩; gi_at_call 27; refine (CallsIn.inRound l2 (callsIn_wide.2 HQ1.out)).mono ?_; rintro e w7 ⟨rfl, h7⟩)
      gi_wp2_with (refine ⟨trivial, ?_⟩; gi_at_call 28; refine (CallsIn.inRound l2 (callsIn_wide.2 (HA.out _ h7))).mono ?_; rintro e w8 ⟨⟨v8, rfl⟩, h8⟩)
      exact HP.out _ _ h8
    | none =>
      have HM1 := Lib.hid (mark_none he)
      have hwf : (Lit.int .i32 (r : Int)).wf = true := rune_wf hr1
      by_cases h32 : r < 32
      · have hq : quoteR r = [92, 117, 48, 48] ++ ([hexL.getD (r / 16) 0] ++ [hexL.getD (r % 16) 0]) := by unfold quoteR; rw [he]; simp only; rw [if_pos h32]; rfl
        have h32' : (r : Int) < 32 := by omega
        have HQ1 := Lib.hid (qstr HQ.out [92, 117, 48, 48] (by simp only [List.length_cons, List.length_nil] at hl3 ⊢; omega))
        clear he hr
        gi_wp2_with (gi_at_lookup; go_loud (refine wpListIn_lookup_own_ok_int _ rfl _ _ 50 rfl 21 21 .i32 runeLaw Tryd.underlying50 Tryd.underlying21 (Tryd.zeroValue21 _) w3.heap.size 8 _ rfl hown _ (runeL (r : Int)) rfl (Maps.keyOf_int_mk Tryd.underlying21 hwf) ?_; intro c0 hat0 hwc0; rw [HM1.out]))
        gi_wp2_with (refine ⟨trivial, ?_⟩; gi_at_call 29; refine (CallsIn.inRound l2 (callsIn_wide.2 HQ1.out)).mono ?_; rintro e w7 ⟨⟨v7, rfl⟩, h7⟩)
        have hl7 : ((34 :: quoteLid pre) ++ [92, 117, 48, 48]).length ≤ 5 + 6 * 1099511627776 := by rw [List.length_append]; simp only [List.length_cons, List.length_nil] at hl3 ⊢; omega
        have hand : bits BinOp.and IntKind.i32 (r : Int) 15 = ((r % 16 : Nat) : Int) := low_bits r h32
        have HC7 := Lib.hid (qhex h7 (by omega) (r / 16) (by omega))
        gi_wp2_with (refine ⟨trivial, ?_⟩; gi_at_call 27; (with_reducible refine (CallsIn.inRound l2 (callsIn_wide.2 (HC7.out _))).mono ?_); rintro e w8 ⟨rfl, h8⟩)
        have hl8 : (((34 :: quoteLid pre) ++ [92, 117, 48, 48]) ++ [hexL.getD (r / 16) 0]).length ≤ 6 + 6 * 1099511627776 := by rw [List.length_append, List.length_singleton]; omega
        have HC8 := Lib.hid (qhex h8 (by omega) (r % 16) (by omega))
        gi_wp2_with (refine ⟨trivial, ?_⟩; gi_at_call 27; (with_reducible refine (CallsIn.inRound l2 (callsIn_wide.2 (HC8.out _))).mono ?_); rintro e w9 ⟨rfl, h9⟩)
        rw [List.append_assoc, List.append_assoc, ← hq] at h9
        exact HP.out _ _ h9
      · have hq : quoteR r = encodeRune (r : Int) := by unfold quoteR; rw [he]; simp only; rw [if_neg h32]
        have h32' : ¬ (r : Int) < 32 := by omega
        have HQ1 := Lib.hid (qrune HQ.out (by omega) r hr1)
        rw [← hq] at HQ1
        clear hq he hr hl3
        gi_wp2_with (gi_at_lookup; go_loud (refine wpListIn_lookup_own_ok_int _ rfl _ _ 50 rfl 21 21 .i32 runeLaw Tryd.underlying50 Tryd.underlying21 (Tryd.zeroValue21 _) w3.heap.size 8 _ rfl hown _ (runeL (r : Int)) rfl (Maps.keyOf_int_mk Tryd.underlying21 hwf) ?_; intro c0 hat0 hwc0; rw [HM1.out]))
        gi_wp2_with (refine ⟨trivial, ?_⟩; gi_at_call 28; refine (CallsIn.inRound l2 (callsIn_wide.2 HQ1.out)).mono ?_; rintro e w8 ⟨⟨v8, rfl⟩, h8⟩)
        exact HP.out _ _ h8
theorem quote_any (s : List UInt8) (w : World) (hs : s.length ≤ 1099511627776) (hT : Tabs w) :
    Calls Tryd.prog 15 #[.string (bs s)] w (Quoted w s) := by
  cases hv : validD s
  · exact callsIn_wide.1 (quote_bad s w hs hT hv)
  cases hq : strangeL s
  · exact callsIn_wide.1 (quote_plain s w hs hT hv hq)
  · exact callsIn_wide.1 (quote_odd s w hs hT hv hq)
end Go.Proofs.YtgeefnmgejnemaaDoor
