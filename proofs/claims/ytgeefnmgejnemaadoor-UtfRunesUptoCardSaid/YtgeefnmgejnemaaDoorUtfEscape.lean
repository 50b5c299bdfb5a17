import Derived.Test.YtgeefnmgejnemaaDoorUtfFour
import Derived.Test.YtgeefnmgejnemaaDoorUtfQuoteMem
namespace Go.Proofs.YtgeefnmgejnemaaDoor
open Go.RowKit Go.Shelf Utf
set_option linter.unusedSimpArgs false
set_option linter.unusedVariables false
namespace Utf
/-- The rune of an escape's letter. -/
def unEsc (c : Nat) : Option Nat := if c = 34 then some 34 else if c = 47 then some 47 else if c = 92 then some 92 else if c = 98 then some 8 else if c = 102 then some 12 else if c = 110 then some 10 else if c = 114 then some 13 else if c = 116 then some 9 else none
/-- The rune of an escape that bytes begin with, its width, and an error. -/
def escapeL (l : List UInt8) : Nat × Nat × Nat :=
  if l.length < 2 then (0, 0, 4) else
  match unEsc (l.getD 1 0).toNat with
  | some r => (r, 2, 0)
  | none =>
    match fourL l with
    | none => (0, 0, 4)
    | some r => if r < 55296 ∨ 57343 < r then (r, 6, 0) else
      match fourL (l.drop 6) with
      | none => (0, 0, 3)
      | some q => if 56320 ≤ r ∨ q < 56320 ∨ 57343 < q then (0, 0, 3) else (65536 + 1024 * (r - 55296) + q - 56320, 12, 0)
def escV (p : Nat × Nat × Nat) : Value := .tuple #[.int .i32 (p.1 : Int), .int .i64 (p.2.1 : Int), .int .i64 (p.2.2 : Int)]
theorem hexFold_lt : ∀ (l : List UInt8) (acc r : Nat), hexFold acc l = some r → r < (acc + 1) * 16 ^ l.length
  | [], acc, r, h => by
    unfold hexFold at h
    injection h with h
    simp; omega
  | c :: t, acc, r, h => by
    rw [hexFold] at h
    cases hd : hexD c.toNat with
    | none => rw [hd] at h; cases h
    | some d =>
      rw [hd] at h
      have h1 := hexFold_lt t _ r h
      have h2 := hexD_lt hd
      have h3 : (acc * 16 + d + 1) * 16 ^ t.length ≤ ((acc + 1) * 16) * 16 ^ t.length := Nat.mul_le_mul_right _ (by omega)
      rw [List.length_cons, Nat.pow_succ, Nat.mul_comm (16 ^ t.length) 16, ← Nat.mul_assoc]
      omega
theorem fourL_lt {l : List UInt8} {r : Nat} (h : fourL l = some r) : r < 65536 ∧ 6 ≤ l.length := by
  by_cases hb : l.length < 6 ∨ (l.getD 0 0).toNat ≠ 92 ∨ (l.getD 1 0).toNat ≠ 117
  · rw [fourL_bad hb] at h; cases h
  · rw [fourL_go hb] at h
    have h1 := hexFold_lt _ _ _ h
    rw [List.length_take, List.length_drop] at h1
    have : min 4 (l.length - 2) = 4 := by omega
    rw [this] at h1
    omega
end Utf
theorem unesc_has {c r : Nat} (h : unEsc c = some r) : Maps.has escD (runeL (c : Int)) = true ∧ ∀ z, escD.atKey (runeL (c : Int)) z = .lit (runeL (r : Int)) := by
  unfold unEsc at h
  repeat' split at h
  all_goals first
    | (cases h; done)
    | (injection h with h; subst h; subst_vars; exact ⟨by decide, fun z => rfl⟩)
theorem unesc_none {c : Nat} (h : unEsc c = none) : Maps.has escD (runeL (c : Int)) = false := by
  unfold unEsc at h
  repeat' split at h
  all_goals first
    | (cases h; done)
    | skip
  simp [Maps.has, escD, runeL, Lit.sameKey]
  omega
theorem byte_wf {c : Int} (h : 0 ≤ c ∧ c < 256) : (Lit.int .i32 c).wf = true := by
  have h1 : IntKind.i32.min = -2147483648 := rfl
  have h2 : IntKind.i32.max = 2147483647 := rfl
  simp only [Lit.wf, h1, h2, Bool.and_eq_true, decide_eq_true_eq]
  omega
set_option maxRecDepth 100000 in
set_option maxHeartbeats 2000000 in
theorem escape_short (s : ByteArray) (w : World) (M : Nat) (hm : RuneMap w M 8 escD) (h : s.size < 2) :
    Calls Tryd.prog 33 #[.string s, .map (some M)] w fun e w' => e = .returned (escV (0, 0, 4)) ∧ Below w.heap.size w w' := by
  have h' : (s.size : Int) < 2 := by omega
  have HF : Hid (∀ a b c : Int, a = 0 → b = 0 → c = 4 → (Value.tuple #[.int .i32 a, .int .i64 b, .int .i64 c]) = escV (0, 0, 4)) := fun a b c h1 h2 h3 => by subst h1 h2 h3; rfl
  go_enter Tryd.func33, Tryd.ntmps33
  go_wp2
  go_ret3
  exact ⟨rfl, Below.refl _ _⟩
set_option maxRecDepth 100000 in
set_option maxHeartbeats 2000000 in
theorem escape_one (s : ByteArray) (w : World) (M : Nat) (hm : RuneMap w M 8 escD) (h : 2 ≤ s.size) (k1 : 1 < s.size) (c : Int) (g1 : ((s[1]'k1).toNat : Int) = c) (hc : 0 ≤ c ∧ c < 256) (r : Nat) (hh : Maps.has escD (runeL c) = true) (ha : ∀ z, escD.atKey (runeL c) z = .lit (runeL (r : Int))) :
    Calls Tryd.prog 33 #[.string s, .map (some M)] w fun e w' => e = .returned (escV (r, 2, 0)) ∧ Below w.heap.size w w' := by
  have h' : ¬ (s.size : Int) < 2 := by omega
  have hwf : (Lit.int .i32 c).wf = true := byte_wf hc
  have HAT : Hid (∀ c0 : Int, escD.atKey (runeL c) (.lit (.int .i32 0)) = .lit (.int .i32 c0) → c0 = (r : Int)) := fun c0 h => by
    rw [ha] at h
    unfold runeL at h
    injection h with h; injection h with _ h; exact h.symm
  have HM1 := Lib.hid hh
  clear ha hh
  go_enter Tryd.func33, Tryd.ntmps33
  go_wp2_with (at_lookup; refine wpList_lookup_own_ok_int _ rfl _ _ 50 rfl 21 21 .i32 runeLaw Tryd.underlying50 Tryd.underlying21 (Tryd.zeroValue21 _) M 8 _ rfl hm _ (runeL c) rfl (Maps.keyOf_int_mk Tryd.underlying21 hwf) ?_; intro c0 hat0 hwc0; obtain rfl := HAT.out c0 hat0; rw [HM1.out])
  go_ret3
  exact ⟨rfl, Below.refl _ _⟩
set_option maxRecDepth 100000 in
set_option maxHeartbeats 2000000 in
theorem escape_none (s : ByteArray) (w : World) (M : Nat) (hm : RuneMap w M 8 escD) (h : 2 ≤ s.size) (k1 : 1 < s.size) (c : Int) (g1 : ((s[1]'k1).toNat : Int) = c) (hc : 0 ≤ c ∧ c < 256) (hh : Maps.has escD (runeL c) = false) (hF : ∀ V, Calls Tryd.prog 40 #[.string s] V fun e V' => e = .returned (.tuple #[.int .i32 0, .bool false]) ∧ Below V.heap.size V V') :
    Calls Tryd.prog 33 #[.string s, .map (some M)] w fun e w' => e = .returned (escV (0, 0, 4)) ∧ Below w.heap.size w w' := by
  have h' : ¬ (s.size : Int) < 2 := by omega
  have hwf : (Lit.int .i32 c).wf = true := byte_wf hc
  have HM1 := Lib.hid hh
  have HF := Lib.hid hF
  clear hh hF
  go_enter Tryd.func33, Tryd.ntmps33
  go_wp2_with (at_lookup; refine wpList_lookup_own_ok_int _ rfl _ _ 50 rfl 21 21 .i32 runeLaw Tryd.underlying50 Tryd.underlying21 (Tryd.zeroValue21 _) M 8 _ rfl hm _ (runeL c) rfl (Maps.keyOf_int_mk Tryd.underlying21 hwf) ?_; intro c0 hat0 hwc0; rw [HM1.out])
  go_wp2_with (go_at_call 40; refine (HF.out _).mono ?_; rintro e w2 ⟨rfl, b2⟩)
  go_ret3
  exact ⟨rfl, b2⟩
set_option maxRecDepth 100000 in
set_option maxHeartbeats 2000000 in
theorem escape_lo (s : ByteArray) (w : World) (M : Nat) (hm : RuneMap w M 8 escD) (h : 2 ≤ s.size) (k1 : 1 < s.size) (c : Int) (g1 : ((s[1]'k1).toNat : Int) = c) (hc : 0 ≤ c ∧ c < 256) (hh : Maps.has escD (runeL c) = false) (r : Nat) (hr : r < 65536) (hF : ∀ V, Calls Tryd.prog 40 #[.string s] V fun e V' => e = .returned (.tuple #[.int .i32 (r : Int), .bool true]) ∧ Below V.heap.size V V') (h1 : r < 55296) :
    Calls Tryd.prog 33 #[.string s, .map (some M)] w fun e w' => e = .returned (escV (r, 6, 0)) ∧ Below w.heap.size w w' := by
  have h' : ¬ (s.size : Int) < 2 := by omega
  have hwf : (Lit.int .i32 c).wf = true := byte_wf hc
  have HM1 := Lib.hid hh
  have HF := Lib.hid hF
  clear hh hF
  have e1 : (r : Int) < 55296 := by omega
  go_enter Tryd.func33, Tryd.ntmps33
  go_wp2_with (at_lookup; refine wpList_lookup_own_ok_int _ rfl _ _ 50 rfl 21 21 .i32 runeLaw Tryd.underlying50 Tryd.underlying21 (Tryd.zeroValue21 _) M 8 _ rfl hm _ (runeL c) rfl (Maps.keyOf_int_mk Tryd.underlying21 hwf) ?_; intro c0 hat0 hwc0; rw [HM1.out])
  go_wp2_with (go_at_call 40; (with_reducible refine (HF.out _).mono ?_); rintro e w2 ⟨rfl, b2⟩)
  go_ret3
  exact ⟨rfl, b2⟩
set_option maxRecDepth 100000 in
set_option maxHeartbeats 2000000 in
theorem escape_hi (s : ByteArray) (w : World) (M : Nat) (hm : RuneMap w M 8 escD) (h : 2 ≤ s.size) (k1 : 1 < s.size) (c : Int) (g1 : ((s[1]'k1).toNat : Int) = c) (hc : 0 ≤ c ∧ c < 256) (hh : Maps.has escD (runeL c) = false) (r : Nat) (hr : r < 65536) (hF : ∀ V, Calls Tryd.prog 40 #[.string s] V fun e V' => e = .returned (.tuple #[.int .i32 (r : Int), .bool true]) ∧ Below V.heap.size V V') (h1 : 57343 < r) :
    Calls Tryd.prog 33 #[.string s, .map (some M)] w fun e w' => e = .returned (escV (r, 6, 0)) ∧ Below w.heap.size w w' := by
  have h' : ¬ (s.size : Int) < 2 := by omega
  have hwf : (Lit.int .i32 c).wf = true := byte_wf hc
  have HM1 := Lib.hid hh
  have HF := Lib.hid hF
  clear hh hF
  have e1 : ¬ (r : Int) < 55296 := by omega
  have e2 : (57343 : Int) < r := by omega
  go_enter Tryd.func33, Tryd.ntmps33
  go_wp2_with (at_lookup; refine wpList_lookup_own_ok_int _ rfl _ _ 50 rfl 21 21 .i32 runeLaw Tryd.underlying50 Tryd.underlying21 (Tryd.zeroValue21 _) M 8 _ rfl hm _ (runeL c) rfl (Maps.keyOf_int_mk Tryd.underlying21 hwf) ?_; intro c0 hat0 hwc0; rw [HM1.out])
  go_wp2_with (go_at_call 40; (with_reducible refine (HF.out _).mono ?_); rintro e w2 ⟨rfl, b2⟩)
  go_ret3
  exact ⟨rfl, b2⟩
set_option maxRecDepth 100000 in
set_option maxHeartbeats 2000000 in
theorem escape_b1 (s : ByteArray) (w : World) (M : Nat) (hm : RuneMap w M 8 escD) (h : 2 ≤ s.size) (k1 : 1 < s.size) (c : Int) (g1 : ((s[1]'k1).toNat : Int) = c) (hc : 0 ≤ c ∧ c < 256) (hh : Maps.has escD (runeL c) = false) (r : Nat) (hr : r < 65536) (hF : ∀ V, Calls Tryd.prog 40 #[.string s] V fun e V' => e = .returned (.tuple #[.int .i32 (r : Int), .bool true]) ∧ Below V.heap.size V V') (h6 : 6 ≤ s.size) (q : Nat) (hq : q < 65536) (b : Bool) (hF2 : ∀ V, Calls Tryd.prog 40 #[.string (s.extract 6 s.size)] V fun e V' => e = .returned (.tuple #[.int .i32 (q : Int), .bool b]) ∧ Below V.heap.size V V') (h1 : 56320 ≤ r ∧ r ≤ 57343) :
    Calls Tryd.prog 33 #[.string s, .map (some M)] w fun e w' => e = .returned (escV (0, 0, 3)) ∧ Below w.heap.size w w' := by
  have h' : ¬ (s.size : Int) < 2 := by omega
  have hwf : (Lit.int .i32 c).wf = true := byte_wf hc
  have HM1 := Lib.hid hh
  have HF := Lib.hid hF
  clear hh hF
  have HF2 := Lib.hid hF2
  clear hF2
  have e1 : decide ((r : Int) < 55296) = false := by rw [decide_eq_false_iff_not]; omega
  have e2 : decide ((57343 : Int) < r) = false := by rw [decide_eq_false_iff_not]; omega
  have e3 : decide ((56320 : Int) ≤ r) = true := by rw [decide_eq_true_iff]; omega
  have HK : Hid (True) := trivial
  clear h1 hr hq
  go_enter Tryd.func33, Tryd.ntmps33
  go_wp2_with (at_lookup; refine wpList_lookup_own_ok_int _ rfl _ _ 50 rfl 21 21 .i32 runeLaw Tryd.underlying50 Tryd.underlying21 (Tryd.zeroValue21 _) M 8 _ rfl hm _ (runeL c) rfl (Maps.keyOf_int_mk Tryd.underlying21 hwf) ?_; intro c0 hat0 hwc0; rw [HM1.out])
  go_wp2_with (go_at_call 40; (with_reducible refine (HF.out _).mono ?_); rintro e w2 ⟨rfl, b2⟩)
  go_wp2_with (go_at_call 40; (with_reducible refine (HF2.out _).mono ?_); rintro e w3 ⟨rfl, b3⟩)
  have b4 := b2.trans (b3.mono b2.size)
  go_ret3
  exact ⟨rfl, b4⟩
set_option maxRecDepth 100000 in
set_option maxHeartbeats 2000000 in
theorem escape_b2 (s : ByteArray) (w : World) (M : Nat) (hm : RuneMap w M 8 escD) (h : 2 ≤ s.size) (k1 : 1 < s.size) (c : Int) (g1 : ((s[1]'k1).toNat : Int) = c) (hc : 0 ≤ c ∧ c < 256) (hh : Maps.has escD (runeL c) = false) (r : Nat) (hr : r < 65536) (hF : ∀ V, Calls Tryd.prog 40 #[.string s] V fun e V' => e = .returned (.tuple #[.int .i32 (r : Int), .bool true]) ∧ Below V.heap.size V V') (h6 : 6 ≤ s.size) (q : Nat) (hq : q < 65536) (b : Bool) (hF2 : ∀ V, Calls Tryd.prog 40 #[.string (s.extract 6 s.size)] V fun e V' => e = .returned (.tuple #[.int .i32 (q : Int), .bool b]) ∧ Below V.heap.size V V') (h1 : 55296 ≤ r ∧ r < 56320) (hb : b = false) :
    Calls Tryd.prog 33 #[.string s, .map (some M)] w fun e w' => e = .returned (escV (0, 0, 3)) ∧ Below w.heap.size w w' := by
  have h' : ¬ (s.size : Int) < 2 := by omega
  have hwf : (Lit.int .i32 c).wf = true := byte_wf hc
  have HM1 := Lib.hid hh
  have HF := Lib.hid hF
  clear hh hF
  have HF2 := Lib.hid hF2
  clear hF2
  subst hb
  have e1 : decide ((r : Int) < 55296) = false := by rw [decide_eq_false_iff_not]; omega
  have e2 : decide ((57343 : Int) < r) = false := by rw [decide_eq_false_iff_not]; omega
  have e3 : decide ((56320 : Int) ≤ r) = false := by rw [decide_eq_false_iff_not]; omega
  have HK : Hid (True) := trivial
  clear h1 hr hq
  go_enter Tryd.func33, Tryd.ntmps33
  go_wp2_with (at_lookup; refine wpList_lookup_own_ok_int _ rfl _ _ 50 rfl 21 21 .i32 runeLaw Tryd.underlying50 Tryd.underlying21 (Tryd.zeroValue21 _) M 8 _ rfl hm _ (runeL c) rfl (Maps.keyOf_int_mk Tryd.underlying21 hwf) ?_; intro c0 hat0 hwc0; rw [HM1.out])
  go_wp2_with (go_at_call 40; (with_reducible refine (HF.out _).mono ?_); rintro e w2 ⟨rfl, b2⟩)
  go_wp2_with (go_at_call 40; (with_reducible refine (HF2.out _).mono ?_); rintro e w3 ⟨rfl, b3⟩)
  have b4 := b2.trans (b3.mono b2.size)
  go_ret3
  exact ⟨rfl, b4⟩
set_option maxRecDepth 100000 in
set_option maxHeartbeats 2000000 in
theorem escape_b3 (s : ByteArray) (w : World) (M : Nat) (hm : RuneMap w M 8 escD) (h : 2 ≤ s.size) (k1 : 1 < s.size) (c : Int) (g1 : ((s[1]'k1).toNat : Int) = c) (hc : 0 ≤ c ∧ c < 256) (hh : Maps.has escD (runeL c) = false) (r : Nat) (hr : r < 65536) (hF : ∀ V, Calls Tryd.prog 40 #[.string s] V fun e V' => e = .returned (.tuple #[.int .i32 (r : Int), .bool true]) ∧ Below V.heap.size V V') (h6 : 6 ≤ s.size) (q : Nat) (hq : q < 65536) (b : Bool) (hF2 : ∀ V, Calls Tryd.prog 40 #[.string (s.extract 6 s.size)] V fun e V' => e = .returned (.tuple #[.int .i32 (q : Int), .bool b]) ∧ Below V.heap.size V V') (h1 : 55296 ≤ r ∧ r < 56320) (hb : b = true) (h2 : q < 56320) :
    Calls Tryd.prog 33 #[.string s, .map (some M)] w fun e w' => e = .returned (escV (0, 0, 3)) ∧ Below w.heap.size w w' := by
  have h' : ¬ (s.size : Int) < 2 := by omega
  have hwf : (Lit.int .i32 c).wf = true := byte_wf hc
  have HM1 := Lib.hid hh
  have HF := Lib.hid hF
  clear hh hF
  have HF2 := Lib.hid hF2
  clear hF2
  subst hb
  have e1 : decide ((r : Int) < 55296) = false := by rw [decide_eq_false_iff_not]; omega
  have e2 : decide ((57343 : Int) < r) = false := by rw [decide_eq_false_iff_not]; omega
  have e3 : decide ((56320 : Int) ≤ r) = false := by rw [decide_eq_false_iff_not]; omega
  have e4 : decide ((q : Int) < 56320) = true := by rw [decide_eq_true_iff]; omega
  have HK : Hid (True) := trivial
  clear h1 hr hq h2
  go_enter Tryd.func33, Tryd.ntmps33
  go_wp2_with (at_lookup; refine wpList_lookup_own_ok_int _ rfl _ _ 50 rfl 21 21 .i32 runeLaw Tryd.underlying50 Tryd.underlying21 (Tryd.zeroValue21 _) M 8 _ rfl hm _ (runeL c) rfl (Maps.keyOf_int_mk Tryd.underlying21 hwf) ?_; intro c0 hat0 hwc0; rw [HM1.out])
  go_wp2_with (go_at_call 40; (with_reducible refine (HF.out _).mono ?_); rintro e w2 ⟨rfl, b2⟩)
  go_wp2_with (go_at_call 40; (with_reducible refine (HF2.out _).mono ?_); rintro e w3 ⟨rfl, b3⟩)
  have b4 := b2.trans (b3.mono b2.size)
  go_ret3
  exact ⟨rfl, b4⟩
set_option maxRecDepth 100000 in
set_option maxHeartbeats 2000000 in
theorem escape_b4 (s : ByteArray) (w : World) (M : Nat) (hm : RuneMap w M 8 escD) (h : 2 ≤ s.size) (k1 : 1 < s.size) (c : Int) (g1 : ((s[1]'k1).toNat : Int) = c) (hc : 0 ≤ c ∧ c < 256) (hh : Maps.has escD (runeL c) = false) (r : Nat) (hr : r < 65536) (hF : ∀ V, Calls Tryd.prog 40 #[.string s] V fun e V' => e = .returned (.tuple #[.int .i32 (r : Int), .bool true]) ∧ Below V.heap.size V V') (h6 : 6 ≤ s.size) (q : Nat) (hq : q < 65536) (b : Bool) (hF2 : ∀ V, Calls Tryd.prog 40 #[.string (s.extract 6 s.size)] V fun e V' => e = .returned (.tuple #[.int .i32 (q : Int), .bool b]) ∧ Below V.heap.size V V') (h1 : 55296 ≤ r ∧ r < 56320) (hb : b = true) (h2 : 57343 < q) :
    Calls Tryd.prog 33 #[.string s, .map (some M)] w fun e w' => e = .returned (escV (0, 0, 3)) ∧ Below w.heap.size w w' := by
  have h' : ¬ (s.size : Int) < 2 := by omega
  have hwf : (Lit.int .i32 c).wf = true := byte_wf hc
  have HM1 := Lib.hid hh
  have HF := Lib.hid hF
  clear hh hF
  have HF2 := Lib.hid hF2
  clear hF2
  subst hb
  have e1 : decide ((r : Int) < 55296) = false := by rw [decide_eq_false_iff_not]; omega
  have e2 : decide ((57343 : Int) < r) = false := by rw [decide_eq_false_iff_not]; omega
  have e3 : decide ((56320 : Int) ≤ r) = false := by rw [decide_eq_false_iff_not]; omega
  have e4 : decide ((q : Int) < 56320) = false := by rw [decide_eq_false_iff_not]; omega
  have e5 : decide ((57343 : Int) < q) = true := by rw [decide_eq_true_iff]; omega
  have HK : Hid (True) := trivial
  clear h1 hr hq h2
  go_enter Tryd.func33, Tryd.ntmps33
  go_wp2_with (at_lookup; refine wpList_lookup_own_ok_int _ rfl _ _ 50 rfl 21 21 .i32 runeLaw Tryd.underlying50 Tryd.underlying21 (Tryd.zeroValue21 _) M 8 _ rfl hm _ (runeL c) rfl (Maps.keyOf_int_mk Tryd.underlying21 hwf) ?_; intro c0 hat0 hwc0; rw [HM1.out])
  go_wp2_with (go_at_call 40; (with_reducible refine (HF.out _).mono ?_); rintro e w2 ⟨rfl, b2⟩)
  go_wp2_with (go_at_call 40; (with_reducible refine (HF2.out _).mono ?_); rintro e w3 ⟨rfl, b3⟩)
  have b4 := b2.trans (b3.mono b2.size)
  go_ret3
  exact ⟨rfl, b4⟩
set_option maxRecDepth 100000 in
set_option maxHeartbeats 2000000 in
theorem escape_ok (s : ByteArray) (w : World) (M : Nat) (hm : RuneMap w M 8 escD) (h : 2 ≤ s.size) (k1 : 1 < s.size) (c : Int) (g1 : ((s[1]'k1).toNat : Int) = c) (hc : 0 ≤ c ∧ c < 256) (hh : Maps.has escD (runeL c) = false) (r : Nat) (hr : r < 65536) (hF : ∀ V, Calls Tryd.prog 40 #[.string s] V fun e V' => e = .returned (.tuple #[.int .i32 (r : Int), .bool true]) ∧ Below V.heap.size V V') (h6 : 6 ≤ s.size) (q : Nat) (hq : q < 65536) (b : Bool) (hF2 : ∀ V, Calls Tryd.prog 40 #[.string (s.extract 6 s.size)] V fun e V' => e = .returned (.tuple #[.int .i32 (q : Int), .bool b]) ∧ Below V.heap.size V V') (h1 : 55296 ≤ r ∧ r < 56320) (hb : b = true) (h2 : 56320 ≤ q ∧ q ≤ 57343) :
    Calls Tryd.prog 33 #[.string s, .map (some M)] w fun e w' => e = .returned (escV (65536 + 1024 * (r - 55296) + q - 56320, 12, 0)) ∧ Below w.heap.size w w' := by
  have h' : ¬ (s.size : Int) < 2 := by omega
  have hwf : (Lit.int .i32 c).wf = true := byte_wf hc
  have HM1 := Lib.hid hh
  have HF := Lib.hid hF
  clear hh hF
  have HF2 := Lib.hid hF2
  clear hF2
  subst hb
  have e1 : decide ((r : Int) < 55296) = false := by rw [decide_eq_false_iff_not]; omega
  have e2 : decide ((57343 : Int) < r) = false := by rw [decide_eq_false_iff_not]; omega
  have e3 : decide ((56320 : Int) ≤ r) = false := by rw [decide_eq_false_iff_not]; omega
  have e4 : decide ((q : Int) < 56320) = false := by rw [decide_eq_false_iff_not]; omega
  have e5 : decide ((57343 : Int) < q) = false := by rw [decide_eq_false_iff_not]; omega
  have HK : Hid ((55296 ≤ r ∧ r < 56320) ∧ (56320 ≤ q ∧ q ≤ 57343)) := ⟨h1, h2⟩
  clear h1 hr hq h2
  obtain ⟨n, hn⟩ : ∃ n, 65536 + 1024 * (r - 55296) + q - 56320 = n := ⟨_, rfl⟩
  have hw : wrap32 (wrap32 (wrap32 (65536 + wrap32 (1024 * wrap32 ((r : Int) - 55296))) + (q : Int)) - 56320) = (n : Int) := by
    have := HK.out
    simp only [wrap32]
    omega
  have HW := Lib.hid hw
  have HN := Lib.hid hn
  clear hw hn
  go_enter Tryd.func33, Tryd.ntmps33
  go_wp2_with (at_lookup; refine wpList_lookup_own_ok_int _ rfl _ _ 50 rfl 21 21 .i32 runeLaw Tryd.underlying50 Tryd.underlying21 (Tryd.zeroValue21 _) M 8 _ rfl hm _ (runeL c) rfl (Maps.keyOf_int_mk Tryd.underlying21 hwf) ?_; intro c0 hat0 hwc0; rw [HM1.out])
  go_wp2_with (go_at_call 40; (with_reducible refine (HF.out _).mono ?_); rintro e w2 ⟨rfl, b2⟩)
  go_wp2_with (go_at_call 40; (with_reducible refine (HF2.out _).mono ?_); rintro e w3 ⟨rfl, b3⟩)
  have b4 := b2.trans (b3.mono b2.size)
  rw [HW.out]
  go_ret3
  exact ⟨by rw [HN.out]; rfl, b4⟩
theorem escape_any (l : List UInt8) (w : World) (M : Nat) (hm : RuneMap w M 8 escD) (hs : l.length ≤ 1125899906842624) :
    Calls Tryd.prog 33 #[.string (bs l), .map (some M)] w fun e w' => e = .returned (escV (escapeL l)) ∧ Below w.heap.size w w' := by
  have hz := bs_size l
  by_cases h2 : l.length < 2
  · have e : escapeL l = (0, 0, 4) := if_pos h2
    rw [e]
    exact escape_short (bs l) w M hm (by omega)
  have k1 : 1 < (bs l).size := by omega
  have g1 := bs_get l 1 k1
  have hc : (0 : Int) ≤ ((l.getD 1 0).toNat : Int) ∧ ((l.getD 1 0).toNat : Int) < 256 := by have := (l.getD 1 0).toNat_lt; omega
  have hcall : ∀ (o : Option Nat) (k : List UInt8), fourL k = o → k.length ≤ 1125899906842624 → ∀ V, Calls Tryd.prog 40 #[.string (bs k)] V fun e V' => e = .returned (fourV o) ∧ Below V.heap.size V V' := fun o k h hk V => by
    have := four_any k V hk
    rwa [h] at this
  have hdrop : (bs l).extract 6 (bs l).size = bs (l.drop 6) := bs_drop l 6
  have hdl : (l.drop 6).length ≤ 1125899906842624 := by rw [List.length_drop]; omega
  unfold escapeL
  rw [if_neg h2]
  cases he : unEsc (l.getD 1 0).toNat with
  | some r => exact escape_one (bs l) w M hm (by omega) k1 _ g1 hc r (unesc_has he).1 (unesc_has he).2
  | none =>
    have hh := unesc_none he
    cases hf : fourL l with
    | none => exact escape_none (bs l) w M hm (by omega) k1 _ g1 hc hh (hcall none l hf hs)
    | some r =>
      obtain ⟨hr, h6⟩ := fourL_lt hf
      have hF := hcall (some r) l hf hs
      simp only
      by_cases h1 : r < 55296 ∨ 57343 < r
      · rw [if_pos h1]
        rcases h1 with h1 | h1
        · exact escape_lo (bs l) w M hm (by omega) k1 _ g1 hc hh r hr hF h1
        · exact escape_hi (bs l) w M hm (by omega) k1 _ g1 hc hh r hr hF h1
      · rw [if_neg h1]
        cases hg : fourL (l.drop 6) with
        | none =>
          have hF2 := hcall none (l.drop 6) hg hdl
          rw [← hdrop] at hF2
          by_cases h3 : 56320 ≤ r
          · exact escape_b1 (bs l) w M hm (by omega) k1 _ g1 hc hh r hr hF (by omega) 0 (by omega) false hF2 (by omega)
          · exact escape_b2 (bs l) w M hm (by omega) k1 _ g1 hc hh r hr hF (by omega) 0 (by omega) false hF2 (by omega) rfl
        | some q =>
          have hF2 := hcall (some q) (l.drop 6) hg hdl
          rw [← hdrop] at hF2
          have hq := (fourL_lt hg).1
          simp only
          by_cases h3 : 56320 ≤ r
          · rw [if_pos (.inl h3)]
            exact escape_b1 (bs l) w M hm (by omega) k1 _ g1 hc hh r hr hF (by omega) q hq true hF2 (by omega)
          by_cases h4 : q < 56320
          · rw [if_pos (.inr (.inl h4))]
            exact escape_b3 (bs l) w M hm (by omega) k1 _ g1 hc hh r hr hF (by omega) q hq true hF2 (by omega) rfl h4
          by_cases h5 : 57343 < q
          · rw [if_pos (.inr (.inr h5))]
            exact escape_b4 (bs l) w M hm (by omega) k1 _ g1 hc hh r hr hF (by omega) q hq true hF2 (by omega) rfl h5
          · rw [if_neg (by omega)]
            exact escape_ok (bs l) w M hm (by omega) k1 _ g1 hc hh r hr hF (by omega) q hq true hF2 (by omega) rfl (by omega)
end Go.Proofs.YtgeefnmgejnemaaDoor
