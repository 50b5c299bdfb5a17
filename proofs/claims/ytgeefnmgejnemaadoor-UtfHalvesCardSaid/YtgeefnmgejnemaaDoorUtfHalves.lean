import Derived.Test.YtgeefnmgejnemaaDoorUtfHalves0
import Derived.Test.YtgeefnmgejnemaaDoorUtfKnown
namespace Go.Proofs.YtgeefnmgejnemaaDoor
open Go.RowKit Go.Shelf Utf
open Go.Lib (encodeRune validD)
set_option linter.unusedSimpArgs false
set_option linter.unusedVariables false
/-- What the law calls, at two numbers. -/
structure HalvesIn (a c : Nat) (b : Bool) (y1 y2 o : ByteArray) (n e : Int) : Prop where
  e1 : ∀ V, Calls Tryd.prog 19 #[.int .i64 (a : Int), .bool b] V fun e w' => e = .returned (.string y1) ∧ V = w'
  e2 : ∀ V, Calls Tryd.prog 19 #[.int .i64 (c : Int), .bool !b] V fun e w' => e = .returned (.string y2) ∧ V = w'
  un : ∀ V, Tabs V → Calls Tryd.prog 17 #[.string ({ data := #[34] } ++ y1 ++ y2 ++ { data := #[34] }), .int .i64 0] V fun x V' => x = .returned (.tuple #[.string o, .int .i64 n, .int .i64 e]) ∧ Below V.heap.size V V'
theorem halvesIn_of {a c : Nat} (b : Bool) (ha : a ≤ 65535) (hc : c ≤ 65535) {o : List UInt8} {n : Int} {e : Nat} (h : unquoteL (twoL b a c) 0 = (o, n, e)) : HalvesIn a c b (bs (escB b a)) (bs (escB (!b) c)) (bs o) n (e : Int) := by
  refine ⟨fun V => lawEsc_any a b V ha, fun V => lawEsc_any c (!b) V hc, fun V hV => ?_⟩
  show Calls Tryd.prog 17 #[.string (bs [34] ++ bs (escB b a) ++ bs (escB (!b) c) ++ bs [34]), .int .i64 0] V _
  rw [two_str]
  have := unquote_any (twoL b a c) 0 V (by rw [two_len]; decide) hV
  rw [h] at this
  exact this
set_option maxRecDepth 100000 in
set_option maxHeartbeats 4000000 in
theorem halves_out (a c : Int) (b : Bool) (w : World) (hT : Tabs w) (h : a < 0 ∨ 65535 < a ∨ c < 0 ∨ 65535 < c) :
    Calls Tryd.prog 8 #[.int .i64 a, .int .i64 c, .bool b] w fun e w' => e = .returned (.bool true) ∧ Below w.heap.size w w' := by
  have HK := Lib.hid (known_any w hT)
  clear hT
  have h' : (decide (a < 0) = true) ∨ (decide (a < 0) = false ∧ decide (65535 < a) = true) ∨ (decide (a < 0) = false ∧ decide (65535 < a) = false ∧ decide (c < 0) = true) ∨ (decide (a < 0) = false ∧ decide (65535 < a) = false ∧ decide (c < 0) = false ∧ decide (65535 < c) = true) := by
    simp only [decide_eq_true_eq, decide_eq_false_iff_not]
    omega
  clear h
  rcases h' with e1 | ⟨e1, e2⟩ | ⟨e1, e2, e3⟩ | ⟨e1, e2, e3, e4⟩
  all_goals
    go_enter Tryd.func8, Tryd.ntmps8
    go_wp2_with fail
    ((with_reducible refine HK.out.mono ?_); rintro e w1 ⟨rfl, b1⟩)
    go_wp2
    go_ret
    exact ⟨rfl, b1⟩
set_option maxRecDepth 100000 in
set_option maxHeartbeats 4000000 in
theorem halves_pair (a c : Nat) (b : Bool) (w : World) (hT : Tabs w) (ha : 55296 ≤ a ∧ a < 56320) (hc : 56320 ≤ c ∧ c < 57344) (y1 y2 o : ByteArray) (s1 : y1.size = 6) (s2 : y2.size = 6) (H : HalvesIn a c b y1 y2 o 14 0)
    (r : Nat) (hr : (65536 : Int) + 1024 * ((a : Int) - 55296) + (c : Int) - 56320 = (r : Int)) (HB : ∀ V, Calls Tryd.prog 20 #[.int .i64 (r : Int)] V fun e w' => e = .returned (.string o) ∧ Below V.heap.size V w') :
    Calls Tryd.prog 8 #[.int .i64 (a : Int), .int .i64 (c : Int), .bool b] w fun e w' => e = .returned (.bool true) ∧ Below w.heap.size w w' := by
  have HK := Lib.hid known_any
  have HT := Lib.hid hT
  have HH := Lib.hid H
  have HBB := Lib.hid HB
  have a1 : decide ((55296 : Int) ≤ (a : Int)) = true := by simp; omega
  have a2 : decide ((a : Int) < 56320) = true := by simp; omega
  have a3 : decide ((a : Int) < 57344) = true := by simp; omega
  have c1 : decide ((56320 : Int) ≤ (c : Int)) = true := by simp; omega
  have c2 : decide ((c : Int) < 57344) = true := by simp; omega
  have c3 : decide ((55296 : Int) ≤ (c : Int)) = true := by simp; omega
  have f1 : decide ((a : Int) < 0) = false := by simp
  have f2 : decide ((65535 : Int) < (a : Int)) = false := by simp; omega
  have f3 : decide ((c : Int) < 0) = false := by simp
  have f4 : decide ((65535 : Int) < (c : Int)) = false := by simp; omega
  have z1 : y1.size ≤ 6 := by omega
  have z2 : y2.size ≤ 6 := by omega
  have e1 : (o.toList == o.toList) = true := by simp
  have hw : wrap64 (wrap64 (wrap64 (65536 + wrap64 (1024 * wrap64 ((a : Int) - 55296))) + (c : Int)) - 56320) = (r : Int) := by
    rw [← hr]
    simp (disch := omega) only [IntWalk.wrap64_in]
  clear s1 s2 H HB hT ha hc hr
  go_enter Tryd.func8, Tryd.ntmps8
  go_wp2_with fail
  ((with_reducible refine (HH.out.e1 _).mono ?_); rintro e w1 ⟨rfl, rfl⟩)
  go_wp2_with fail
  ((with_reducible refine (HH.out.e2 _).mono ?_); rintro e w1 ⟨rfl, rfl⟩)
  go_wp2_with fail
  ((with_reducible refine (HH.out.un _ HT.out).mono ?_); rintro e w1 ⟨rfl, b1⟩)
  go_wp2_with fail
  ((with_reducible refine (HBB.out _).mono ?_); rintro e w2 ⟨rfl, b2⟩)
  have k2 := bthen b1 b2
  go_wp2_with fail
  ((with_reducible refine (HK.out _ (tabs_below HT.out k2)).mono ?_); rintro e w3 ⟨rfl, b3⟩)
  have k3 := bthen k2 b3
  go_wp2
  go_ret
  exact ⟨rfl, k3⟩
set_option maxRecDepth 100000 in
set_option maxHeartbeats 4000000 in
theorem halves_b1 (a c : Nat) (b : Bool) (w : World) (hT : Tabs w) (h6 : a ≤ 65535) (hc6 : c ≤ 65535) (ha : 55296 ≤ a ∧ a < 56320) (hc : c < 55296) (y1 y2 : ByteArray) (s1 : y1.size = 6) (s2 : y2.size = 6) (H : HalvesIn a c b y1 y2 ⟨#[]⟩ 1 3) :
    Calls Tryd.prog 8 #[.int .i64 (a : Int), .int .i64 (c : Int), .bool b] w fun e w' => e = .returned (.bool true) ∧ Below w.heap.size w w' := by
  have HK := Lib.hid known_any
  have HT := Lib.hid hT
  have HH := Lib.hid H
  have a1 : decide ((55296 : Int) ≤ (a : Int)) = true := by simp; omega
  have a2 : decide ((a : Int) < 56320) = true := by simp; omega
  have a3 : decide ((a : Int) < 57344) = true := by simp; omega
  have c1 : decide ((56320 : Int) ≤ (c : Int)) = false := by simp; omega
  have c2 : decide ((c : Int) < 57344) = true := by simp; omega
  have c3 : decide ((55296 : Int) ≤ (c : Int)) = false := by simp; omega
  have f1 : decide ((a : Int) < 0) = false := by simp
  have f2 : decide ((65535 : Int) < (a : Int)) = false := by simp; omega
  have f3 : decide ((c : Int) < 0) = false := by simp
  have f4 : decide ((65535 : Int) < (c : Int)) = false := by simp; omega
  have z1 : y1.size ≤ 6 := by omega
  have z2 : y2.size ≤ 6 := by omega
  clear s1 s2 H hT ha hc h6 hc6
  go_enter Tryd.func8, Tryd.ntmps8
  go_wp2_with fail
  ((with_reducible refine (HH.out.e1 _).mono ?_); rintro e w1 ⟨rfl, rfl⟩)
  go_wp2_with fail
  ((with_reducible refine (HH.out.e2 _).mono ?_); rintro e w1 ⟨rfl, rfl⟩)
  go_wp2_with fail
  ((with_reducible refine (HH.out.un _ HT.out).mono ?_); rintro e w1 ⟨rfl, b1⟩)
  go_wp2_with fail
  ((with_reducible refine (HK.out _ (tabs_below HT.out b1)).mono ?_); rintro e w3 ⟨rfl, b3⟩)
  have k3 := bthen b1 b3
  go_wp2
  go_ret
  exact ⟨rfl, k3⟩
set_option maxRecDepth 100000 in
set_option maxHeartbeats 4000000 in
theorem halves_b2 (a c : Nat) (b : Bool) (w : World) (hT : Tabs w) (h6 : a ≤ 65535) (hc6 : c ≤ 65535) (ha : 55296 ≤ a ∧ a < 56320) (hc : 55296 ≤ c ∧ c < 56320) (y1 y2 : ByteArray) (s1 : y1.size = 6) (s2 : y2.size = 6) (H : HalvesIn a c b y1 y2 ⟨#[]⟩ 1 3) :
    Calls Tryd.prog 8 #[.int .i64 (a : Int), .int .i64 (c : Int), .bool b] w fun e w' => e = .returned (.bool true) ∧ Below w.heap.size w w' := by
  have HK := Lib.hid known_any
  have HT := Lib.hid hT
  have HH := Lib.hid H
  have a1 : decide ((55296 : Int) ≤ (a : Int)) = true := by simp; omega
  have a2 : decide ((a : Int) < 56320) = true := by simp; omega
  have a3 : decide ((a : Int) < 57344) = true := by simp; omega
  have c1 : decide ((56320 : Int) ≤ (c : Int)) = false := by simp; omega
  have c2 : decide ((c : Int) < 57344) = true := by simp; omega
  have c3 : decide ((55296 : Int) ≤ (c : Int)) = true := by simp; omega
  have f1 : decide ((a : Int) < 0) = false := by simp
  have f2 : decide ((65535 : Int) < (a : Int)) = false := by simp; omega
  have f3 : decide ((c : Int) < 0) = false := by simp
  have f4 : decide ((65535 : Int) < (c : Int)) = false := by simp; omega
  have z1 : y1.size ≤ 6 := by omega
  have z2 : y2.size ≤ 6 := by omega
  clear s1 s2 H hT ha hc h6 hc6
  go_enter Tryd.func8, Tryd.ntmps8
  go_wp2_with fail
  ((with_reducible refine (HH.out.e1 _).mono ?_); rintro e w1 ⟨rfl, rfl⟩)
  go_wp2_with fail
  ((with_reducible refine (HH.out.e2 _).mono ?_); rintro e w1 ⟨rfl, rfl⟩)
  go_wp2_with fail
  ((with_reducible refine (HH.out.un _ HT.out).mono ?_); rintro e w1 ⟨rfl, b1⟩)
  go_wp2_with fail
  ((with_reducible refine (HK.out _ (tabs_below HT.out b1)).mono ?_); rintro e w3 ⟨rfl, b3⟩)
  have k3 := bthen b1 b3
  go_wp2
  go_ret
  exact ⟨rfl, k3⟩
set_option maxRecDepth 100000 in
set_option maxHeartbeats 4000000 in
theorem halves_b3 (a c : Nat) (b : Bool) (w : World) (hT : Tabs w) (h6 : a ≤ 65535) (hc6 : c ≤ 65535) (ha : 55296 ≤ a ∧ a < 56320) (hc : 57344 ≤ c) (y1 y2 : ByteArray) (s1 : y1.size = 6) (s2 : y2.size = 6) (H : HalvesIn a c b y1 y2 ⟨#[]⟩ 1 3) :
    Calls Tryd.prog 8 #[.int .i64 (a : Int), .int .i64 (c : Int), .bool b] w fun e w' => e = .returned (.bool true) ∧ Below w.heap.size w w' := by
  have HK := Lib.hid known_any
  have HT := Lib.hid hT
  have HH := Lib.hid H
  have a1 : decide ((55296 : Int) ≤ (a : Int)) = true := by simp; omega
  have a2 : decide ((a : Int) < 56320) = true := by simp; omega
  have a3 : decide ((a : Int) < 57344) = true := by simp; omega
  have c1 : decide ((56320 : Int) ≤ (c : Int)) = true := by simp; omega
  have c2 : decide ((c : Int) < 57344) = false := by simp; omega
  have c3 : decide ((55296 : Int) ≤ (c : Int)) = true := by simp; omega
  have f1 : decide ((a : Int) < 0) = false := by simp
  have f2 : decide ((65535 : Int) < (a : Int)) = false := by simp; omega
  have f3 : decide ((c : Int) < 0) = false := by simp
  have f4 : decide ((65535 : Int) < (c : Int)) = false := by simp; omega
  have z1 : y1.size ≤ 6 := by omega
  have z2 : y2.size ≤ 6 := by omega
  clear s1 s2 H hT ha hc h6 hc6
  go_enter Tryd.func8, Tryd.ntmps8
  go_wp2_with fail
  ((with_reducible refine (HH.out.e1 _).mono ?_); rintro e w1 ⟨rfl, rfl⟩)
  go_wp2_with fail
  ((with_reducible refine (HH.out.e2 _).mono ?_); rintro e w1 ⟨rfl, rfl⟩)
  go_wp2_with fail
  ((with_reducible refine (HH.out.un _ HT.out).mono ?_); rintro e w1 ⟨rfl, b1⟩)
  go_wp2_with fail
  ((with_reducible refine (HK.out _ (tabs_below HT.out b1)).mono ?_); rintro e w3 ⟨rfl, b3⟩)
  have k3 := bthen b1 b3
  go_wp2
  go_ret
  exact ⟨rfl, k3⟩
set_option maxRecDepth 100000 in
set_option maxHeartbeats 4000000 in
theorem halves_b4 (a c : Nat) (b : Bool) (w : World) (hT : Tabs w) (h6 : a ≤ 65535) (hc6 : c ≤ 65535) (ha : 56320 ≤ a ∧ a < 57344) (hc : c < 55296) (y1 y2 : ByteArray) (s1 : y1.size = 6) (s2 : y2.size = 6) (H : HalvesIn a c b y1 y2 ⟨#[]⟩ 1 3) :
    Calls Tryd.prog 8 #[.int .i64 (a : Int), .int .i64 (c : Int), .bool b] w fun e w' => e = .returned (.bool true) ∧ Below w.heap.size w w' := by
  have HK := Lib.hid known_any
  have HT := Lib.hid hT
  have HH := Lib.hid H
  have a1 : decide ((55296 : Int) ≤ (a : Int)) = true := by simp; omega
  have a2 : decide ((a : Int) < 56320) = false := by simp; omega
  have a3 : decide ((a : Int) < 57344) = true := by simp; omega
  have c1 : decide ((56320 : Int) ≤ (c : Int)) = false := by simp; omega
  have c2 : decide ((c : Int) < 57344) = true := by simp; omega
  have c3 : decide ((55296 : Int) ≤ (c : Int)) = false := by simp; omega
  have f1 : decide ((a : Int) < 0) = false := by simp
  have f2 : decide ((65535 : Int) < (a : Int)) = false := by simp; omega
  have f3 : decide ((c : Int) < 0) = false := by simp
  have f4 : decide ((65535 : Int) < (c : Int)) = false := by simp; omega
  have z1 : y1.size ≤ 6 := by omega
  have z2 : y2.size ≤ 6 := by omega
  clear s1 s2 H hT ha hc h6 hc6
  go_enter Tryd.func8, Tryd.ntmps8
  go_wp2_with fail
  ((with_reducible refine (HH.out.e1 _).mono ?_); rintro e w1 ⟨rfl, rfl⟩)
  go_wp2_with fail
  ((with_reducible refine (HH.out.e2 _).mono ?_); rintro e w1 ⟨rfl, rfl⟩)
  go_wp2_with fail
  ((with_reducible refine (HH.out.un _ HT.out).mono ?_); rintro e w1 ⟨rfl, b1⟩)
  go_wp2_with fail
  ((with_reducible refine (HK.out _ (tabs_below HT.out b1)).mono ?_); rintro e w3 ⟨rfl, b3⟩)
  have k3 := bthen b1 b3
  go_wp2
  go_ret
  exact ⟨rfl, k3⟩
set_option maxRecDepth 100000 in
set_option maxHeartbeats 4000000 in
theorem halves_b5 (a c : Nat) (b : Bool) (w : World) (hT : Tabs w) (h6 : a ≤ 65535) (hc6 : c ≤ 65535) (ha : 56320 ≤ a ∧ a < 57344) (hc : 55296 ≤ c ∧ c < 56320) (y1 y2 : ByteArray) (s1 : y1.size = 6) (s2 : y2.size = 6) (H : HalvesIn a c b y1 y2 ⟨#[]⟩ 1 3) :
    Calls Tryd.prog 8 #[.int .i64 (a : Int), .int .i64 (c : Int), .bool b] w fun e w' => e = .returned (.bool true) ∧ Below w.heap.size w w' := by
  have HK := Lib.hid known_any
  have HT := Lib.hid hT
  have HH := Lib.hid H
  have a1 : decide ((55296 : Int) ≤ (a : Int)) = true := by simp; omega
  have a2 : decide ((a : Int) < 56320) = false := by simp; omega
  have a3 : decide ((a : Int) < 57344) = true := by simp; omega
  have c1 : decide ((56320 : Int) ≤ (c : Int)) = false := by simp; omega
  have c2 : decide ((c : Int) < 57344) = true := by simp; omega
  have c3 : decide ((55296 : Int) ≤ (c : Int)) = true := by simp; omega
  have f1 : decide ((a : Int) < 0) = false := by simp
  have f2 : decide ((65535 : Int) < (a : Int)) = false := by simp; omega
  have f3 : decide ((c : Int) < 0) = false := by simp
  have f4 : decide ((65535 : Int) < (c : Int)) = false := by simp; omega
  have z1 : y1.size ≤ 6 := by omega
  have z2 : y2.size ≤ 6 := by omega
  clear s1 s2 H hT ha hc h6 hc6
  go_enter Tryd.func8, Tryd.ntmps8
  go_wp2_with fail
  ((with_reducible refine (HH.out.e1 _).mono ?_); rintro e w1 ⟨rfl, rfl⟩)
  go_wp2_with fail
  ((with_reducible refine (HH.out.e2 _).mono ?_); rintro e w1 ⟨rfl, rfl⟩)
  go_wp2_with fail
  ((with_reducible refine (HH.out.un _ HT.out).mono ?_); rintro e w1 ⟨rfl, b1⟩)
  go_wp2_with fail
  ((with_reducible refine (HK.out _ (tabs_below HT.out b1)).mono ?_); rintro e w3 ⟨rfl, b3⟩)
  have k3 := bthen b1 b3
  go_wp2
  go_ret
  exact ⟨rfl, k3⟩
set_option maxRecDepth 100000 in
set_option maxHeartbeats 4000000 in
theorem halves_b6 (a c : Nat) (b : Bool) (w : World) (hT : Tabs w) (h6 : a ≤ 65535) (hc6 : c ≤ 65535) (ha : 56320 ≤ a ∧ a < 57344) (hc : 56320 ≤ c ∧ c < 57344) (y1 y2 : ByteArray) (s1 : y1.size = 6) (s2 : y2.size = 6) (H : HalvesIn a c b y1 y2 ⟨#[]⟩ 1 3) :
    Calls Tryd.prog 8 #[.int .i64 (a : Int), .int .i64 (c : Int), .bool b] w fun e w' => e = .returned (.bool true) ∧ Below w.heap.size w w' := by
  have HK := Lib.hid known_any
  have HT := Lib.hid hT
  have HH := Lib.hid H
  have a1 : decide ((55296 : Int) ≤ (a : Int)) = true := by simp; omega
  have a2 : decide ((a : Int) < 56320) = false := by simp; omega
  have a3 : decide ((a : Int) < 57344) = true := by simp; omega
  have c1 : decide ((56320 : Int) ≤ (c : Int)) = true := by simp; omega
  have c2 : decide ((c : Int) < 57344) = true := by simp; omega
  have c3 : decide ((55296 : Int) ≤ (c : Int)) = true := by simp; omega
  have f1 : decide ((a : Int) < 0) = false := by simp
  have f2 : decide ((65535 : Int) < (a : Int)) = false := by simp; omega
  have f3 : decide ((c : Int) < 0) = false := by simp
  have f4 : decide ((65535 : Int) < (c : Int)) = false := by simp; omega
  have z1 : y1.size ≤ 6 := by omega
  have z2 : y2.size ≤ 6 := by omega
  clear s1 s2 H hT ha hc h6 hc6
  go_enter Tryd.func8, Tryd.ntmps8
  go_wp2_with fail
  ((with_reducible refine (HH.out.e1 _).mono ?_); rintro e w1 ⟨rfl, rfl⟩)
  go_wp2_with fail
  ((with_reducible refine (HH.out.e2 _).mono ?_); rintro e w1 ⟨rfl, rfl⟩)
  go_wp2_with fail
  ((with_reducible refine (HH.out.un _ HT.out).mono ?_); rintro e w1 ⟨rfl, b1⟩)
  go_wp2_with fail
  ((with_reducible refine (HK.out _ (tabs_below HT.out b1)).mono ?_); rintro e w3 ⟨rfl, b3⟩)
  have k3 := bthen b1 b3
  go_wp2
  go_ret
  exact ⟨rfl, k3⟩
set_option maxRecDepth 100000 in
set_option maxHeartbeats 4000000 in
theorem halves_b7 (a c : Nat) (b : Bool) (w : World) (hT : Tabs w) (h6 : a ≤ 65535) (hc6 : c ≤ 65535) (ha : 56320 ≤ a ∧ a < 57344) (hc : 57344 ≤ c) (y1 y2 : ByteArray) (s1 : y1.size = 6) (s2 : y2.size = 6) (H : HalvesIn a c b y1 y2 ⟨#[]⟩ 1 3) :
    Calls Tryd.prog 8 #[.int .i64 (a : Int), .int .i64 (c : Int), .bool b] w fun e w' => e = .returned (.bool true) ∧ Below w.heap.size w w' := by
  have HK := Lib.hid known_any
  have HT := Lib.hid hT
  have HH := Lib.hid H
  have a1 : decide ((55296 : Int) ≤ (a : Int)) = true := by simp; omega
  have a2 : decide ((a : Int) < 56320) = false := by simp; omega
  have a3 : decide ((a : Int) < 57344) = true := by simp; omega
  have c1 : decide ((56320 : Int) ≤ (c : Int)) = true := by simp; omega
  have c2 : decide ((c : Int) < 57344) = false := by simp; omega
  have c3 : decide ((55296 : Int) ≤ (c : Int)) = true := by simp; omega
  have f1 : decide ((a : Int) < 0) = false := by simp
  have f2 : decide ((65535 : Int) < (a : Int)) = false := by simp; omega
  have f3 : decide ((c : Int) < 0) = false := by simp
  have f4 : decide ((65535 : Int) < (c : Int)) = false := by simp; omega
  have z1 : y1.size ≤ 6 := by omega
  have z2 : y2.size ≤ 6 := by omega
  clear s1 s2 H hT ha hc h6 hc6
  go_enter Tryd.func8, Tryd.ntmps8
  go_wp2_with fail
  ((with_reducible refine (HH.out.e1 _).mono ?_); rintro e w1 ⟨rfl, rfl⟩)
  go_wp2_with fail
  ((with_reducible refine (HH.out.e2 _).mono ?_); rintro e w1 ⟨rfl, rfl⟩)
  go_wp2_with fail
  ((with_reducible refine (HH.out.un _ HT.out).mono ?_); rintro e w1 ⟨rfl, b1⟩)
  go_wp2_with fail
  ((with_reducible refine (HK.out _ (tabs_below HT.out b1)).mono ?_); rintro e w3 ⟨rfl, b3⟩)
  have k3 := bthen b1 b3
  go_wp2
  go_ret
  exact ⟨rfl, k3⟩
set_option maxRecDepth 100000 in
set_option maxHeartbeats 4000000 in
theorem halves_h1 (a c : Nat) (b : Bool) (w : World) (hT : Tabs w) (h6 : a ≤ 65535) (hc6 : c ≤ 65535) (ha : a < 55296) (hc : 55296 ≤ c ∧ c < 56320) (y1 y2 : ByteArray) (s1 : y1.size = 6) (s2 : y2.size = 6) (H : HalvesIn a c b y1 y2 ⟨#[]⟩ 7 3) :
    Calls Tryd.prog 8 #[.int .i64 (a : Int), .int .i64 (c : Int), .bool b] w fun e w' => e = .returned (.bool true) ∧ Below w.heap.size w w' := by
  have HK := Lib.hid known_any
  have HT := Lib.hid hT
  have HH := Lib.hid H
  have a1 : decide ((55296 : Int) ≤ (a : Int)) = false := by simp; omega
  have a2 : decide ((a : Int) < 56320) = true := by simp; omega
  have a3 : decide ((a : Int) < 57344) = true := by simp; omega
  have c1 : decide ((56320 : Int) ≤ (c : Int)) = false := by simp; omega
  have c2 : decide ((c : Int) < 57344) = true := by simp; omega
  have c3 : decide ((55296 : Int) ≤ (c : Int)) = true := by simp; omega
  have f1 : decide ((a : Int) < 0) = false := by simp
  have f2 : decide ((65535 : Int) < (a : Int)) = false := by simp; omega
  have f3 : decide ((c : Int) < 0) = false := by simp
  have f4 : decide ((65535 : Int) < (c : Int)) = false := by simp; omega
  have z1 : y1.size ≤ 6 := by omega
  have z2 : y2.size ≤ 6 := by omega
  clear s1 s2 H hT ha hc h6 hc6
  go_enter Tryd.func8, Tryd.ntmps8
  go_wp2_with fail
  ((with_reducible refine (HH.out.e1 _).mono ?_); rintro e w1 ⟨rfl, rfl⟩)
  go_wp2_with fail
  ((with_reducible refine (HH.out.e2 _).mono ?_); rintro e w1 ⟨rfl, rfl⟩)
  go_wp2_with fail
  ((with_reducible refine (HH.out.un _ HT.out).mono ?_); rintro e w1 ⟨rfl, b1⟩)
  go_wp2_with fail
  ((with_reducible refine (HK.out _ (tabs_below HT.out b1)).mono ?_); rintro e w3 ⟨rfl, b3⟩)
  have k3 := bthen b1 b3
  go_wp2
  go_ret
  exact ⟨rfl, k3⟩
set_option maxRecDepth 100000 in
set_option maxHeartbeats 4000000 in
theorem halves_h2 (a c : Nat) (b : Bool) (w : World) (hT : Tabs w) (h6 : a ≤ 65535) (hc6 : c ≤ 65535) (ha : a < 55296) (hc : 56320 ≤ c ∧ c < 57344) (y1 y2 : ByteArray) (s1 : y1.size = 6) (s2 : y2.size = 6) (H : HalvesIn a c b y1 y2 ⟨#[]⟩ 7 3) :
    Calls Tryd.prog 8 #[.int .i64 (a : Int), .int .i64 (c : Int), .bool b] w fun e w' => e = .returned (.bool true) ∧ Below w.heap.size w w' := by
  have HK := Lib.hid known_any
  have HT := Lib.hid hT
  have HH := Lib.hid H
  have a1 : decide ((55296 : Int) ≤ (a : Int)) = false := by simp; omega
  have a2 : decide ((a : Int) < 56320) = true := by simp; omega
  have a3 : decide ((a : Int) < 57344) = true := by simp; omega
  have c1 : decide ((56320 : Int) ≤ (c : Int)) = true := by simp; omega
  have c2 : decide ((c : Int) < 57344) = true := by simp; omega
  have c3 : decide ((55296 : Int) ≤ (c : Int)) = true := by simp; omega
  have f1 : decide ((a : Int) < 0) = false := by simp
  have f2 : decide ((65535 : Int) < (a : Int)) = false := by simp; omega
  have f3 : decide ((c : Int) < 0) = false := by simp
  have f4 : decide ((65535 : Int) < (c : Int)) = false := by simp; omega
  have z1 : y1.size ≤ 6 := by omega
  have z2 : y2.size ≤ 6 := by omega
  clear s1 s2 H hT ha hc h6 hc6
  go_enter Tryd.func8, Tryd.ntmps8
  go_wp2_with fail
  ((with_reducible refine (HH.out.e1 _).mono ?_); rintro e w1 ⟨rfl, rfl⟩)
  go_wp2_with fail
  ((with_reducible refine (HH.out.e2 _).mono ?_); rintro e w1 ⟨rfl, rfl⟩)
  go_wp2_with fail
  ((with_reducible refine (HH.out.un _ HT.out).mono ?_); rintro e w1 ⟨rfl, b1⟩)
  go_wp2_with fail
  ((with_reducible refine (HK.out _ (tabs_below HT.out b1)).mono ?_); rintro e w3 ⟨rfl, b3⟩)
  have k3 := bthen b1 b3
  go_wp2
  go_ret
  exact ⟨rfl, k3⟩
set_option maxRecDepth 100000 in
set_option maxHeartbeats 4000000 in
theorem halves_h3 (a c : Nat) (b : Bool) (w : World) (hT : Tabs w) (h6 : a ≤ 65535) (hc6 : c ≤ 65535) (ha : 57344 ≤ a) (hc : 55296 ≤ c ∧ c < 56320) (y1 y2 : ByteArray) (s1 : y1.size = 6) (s2 : y2.size = 6) (H : HalvesIn a c b y1 y2 ⟨#[]⟩ 7 3) :
    Calls Tryd.prog 8 #[.int .i64 (a : Int), .int .i64 (c : Int), .bool b] w fun e w' => e = .returned (.bool true) ∧ Below w.heap.size w w' := by
  have HK := Lib.hid known_any
  have HT := Lib.hid hT
  have HH := Lib.hid H
  have a1 : decide ((55296 : Int) ≤ (a : Int)) = true := by simp; omega
  have a2 : decide ((a : Int) < 56320) = false := by simp; omega
  have a3 : decide ((a : Int) < 57344) = false := by simp; omega
  have c1 : decide ((56320 : Int) ≤ (c : Int)) = false := by simp; omega
  have c2 : decide ((c : Int) < 57344) = true := by simp; omega
  have c3 : decide ((55296 : Int) ≤ (c : Int)) = true := by simp; omega
  have f1 : decide ((a : Int) < 0) = false := by simp
  have f2 : decide ((65535 : Int) < (a : Int)) = false := by simp; omega
  have f3 : decide ((c : Int) < 0) = false := by simp
  have f4 : decide ((65535 : Int) < (c : Int)) = false := by simp; omega
  have z1 : y1.size ≤ 6 := by omega
  have z2 : y2.size ≤ 6 := by omega
  clear s1 s2 H hT ha hc h6 hc6
  go_enter Tryd.func8, Tryd.ntmps8
  go_wp2_with fail
  ((with_reducible refine (HH.out.e1 _).mono ?_); rintro e w1 ⟨rfl, rfl⟩)
  go_wp2_with fail
  ((with_reducible refine (HH.out.e2 _).mono ?_); rintro e w1 ⟨rfl, rfl⟩)
  go_wp2_with fail
  ((with_reducible refine (HH.out.un _ HT.out).mono ?_); rintro e w1 ⟨rfl, b1⟩)
  go_wp2_with fail
  ((with_reducible refine (HK.out _ (tabs_below HT.out b1)).mono ?_); rintro e w3 ⟨rfl, b3⟩)
  have k3 := bthen b1 b3
  go_wp2
  go_ret
  exact ⟨rfl, k3⟩
set_option maxRecDepth 100000 in
set_option maxHeartbeats 4000000 in
theorem halves_h4 (a c : Nat) (b : Bool) (w : World) (hT : Tabs w) (h6 : a ≤ 65535) (hc6 : c ≤ 65535) (ha : 57344 ≤ a) (hc : 56320 ≤ c ∧ c < 57344) (y1 y2 : ByteArray) (s1 : y1.size = 6) (s2 : y2.size = 6) (H : HalvesIn a c b y1 y2 ⟨#[]⟩ 7 3) :
    Calls Tryd.prog 8 #[.int .i64 (a : Int), .int .i64 (c : Int), .bool b] w fun e w' => e = .returned (.bool true) ∧ Below w.heap.size w w' := by
  have HK := Lib.hid known_any
  have HT := Lib.hid hT
  have HH := Lib.hid H
  have a1 : decide ((55296 : Int) ≤ (a : Int)) = true := by simp; omega
  have a2 : decide ((a : Int) < 56320) = false := by simp; omega
  have a3 : decide ((a : Int) < 57344) = false := by simp; omega
  have c1 : decide ((56320 : Int) ≤ (c : Int)) = true := by simp; omega
  have c2 : decide ((c : Int) < 57344) = true := by simp; omega
  have c3 : decide ((55296 : Int) ≤ (c : Int)) = true := by simp; omega
  have f1 : decide ((a : Int) < 0) = false := by simp
  have f2 : decide ((65535 : Int) < (a : Int)) = false := by simp; omega
  have f3 : decide ((c : Int) < 0) = false := by simp
  have f4 : decide ((65535 : Int) < (c : Int)) = false := by simp; omega
  have z1 : y1.size ≤ 6 := by omega
  have z2 : y2.size ≤ 6 := by omega
  clear s1 s2 H hT ha hc h6 hc6
  go_enter Tryd.func8, Tryd.ntmps8
  go_wp2_with fail
  ((with_reducible refine (HH.out.e1 _).mono ?_); rintro e w1 ⟨rfl, rfl⟩)
  go_wp2_with fail
  ((with_reducible refine (HH.out.e2 _).mono ?_); rintro e w1 ⟨rfl, rfl⟩)
  go_wp2_with fail
  ((with_reducible refine (HH.out.un _ HT.out).mono ?_); rintro e w1 ⟨rfl, b1⟩)
  go_wp2_with fail
  ((with_reducible refine (HK.out _ (tabs_below HT.out b1)).mono ?_); rintro e w3 ⟨rfl, b3⟩)
  have k3 := bthen b1 b3
  go_wp2
  go_ret
  exact ⟨rfl, k3⟩
set_option maxRecDepth 100000 in
set_option maxHeartbeats 4000000 in
theorem halves_g1 (a c : Nat) (b : Bool) (w : World) (hT : Tabs w) (h6 : a ≤ 65535) (hc6 : c ≤ 65535) (ha : a < 55296) (hc : c < 55296) (y1 y2 o1 o2 : ByteArray) (s1 : y1.size = 6) (s2 : y2.size = 6) (t1 : o1.size ≤ 4) (t2 : o2.size ≤ 4) (H : HalvesIn a c b y1 y2 (o1 ++ o2) 14 0)
    (HB1 : ∀ V, Calls Tryd.prog 20 #[.int .i64 (a : Int)] V fun e w' => e = .returned (.string o1) ∧ Below V.heap.size V w') (HB2 : ∀ V, Calls Tryd.prog 20 #[.int .i64 (c : Int)] V fun e w' => e = .returned (.string o2) ∧ Below V.heap.size V w') :
    Calls Tryd.prog 8 #[.int .i64 (a : Int), .int .i64 (c : Int), .bool b] w fun e w' => e = .returned (.bool true) ∧ Below w.heap.size w w' := by
  have HK := Lib.hid known_any
  have HT := Lib.hid hT
  have HH := Lib.hid H
  have HBB1 := Lib.hid HB1
  have HBB2 := Lib.hid HB2
  have a1 : decide ((55296 : Int) ≤ (a : Int)) = false := by simp; omega
  have a2 : decide ((a : Int) < 56320) = true := by simp; omega
  have a3 : decide ((a : Int) < 57344) = true := by simp; omega
  have c1 : decide ((56320 : Int) ≤ (c : Int)) = false := by simp; omega
  have c2 : decide ((c : Int) < 57344) = true := by simp; omega
  have c3 : decide ((55296 : Int) ≤ (c : Int)) = false := by simp; omega
  have f1 : decide ((a : Int) < 0) = false := by simp
  have f2 : decide ((65535 : Int) < (a : Int)) = false := by simp; omega
  have f3 : decide ((c : Int) < 0) = false := by simp
  have f4 : decide ((65535 : Int) < (c : Int)) = false := by simp; omega
  have z1 : y1.size ≤ 6 := by omega
  have z2 : y2.size ≤ 6 := by omega
  have e1 : ((o1 ++ o2).toList == (o1 ++ o2).toList) = true := by simp
  clear s1 s2 H HB1 HB2 hT ha hc h6 hc6
  go_enter Tryd.func8, Tryd.ntmps8
  go_wp2_with fail
  ((with_reducible refine (HH.out.e1 _).mono ?_); rintro e w1 ⟨rfl, rfl⟩)
  go_wp2_with fail
  ((with_reducible refine (HH.out.e2 _).mono ?_); rintro e w1 ⟨rfl, rfl⟩)
  go_wp2_with fail
  ((with_reducible refine (HH.out.un _ HT.out).mono ?_); rintro e w1 ⟨rfl, b1⟩)
  go_wp2_with fail
  ((with_reducible refine (HBB1.out _).mono ?_); rintro e w2 ⟨rfl, b2⟩)
  have k2 := bthen b1 b2
  go_wp2_with fail
  ((with_reducible refine (HBB2.out _).mono ?_); rintro e w3 ⟨rfl, b3⟩)
  have k3 := bthen k2 b3
  go_wp2_with fail
  ((with_reducible refine (HK.out _ (tabs_below HT.out k3)).mono ?_); rintro e w4 ⟨rfl, b4⟩)
  have k4 := bthen k3 b4
  go_wp2
  go_ret
  exact ⟨rfl, k4⟩
set_option maxRecDepth 100000 in
set_option maxHeartbeats 4000000 in
theorem halves_g2 (a c : Nat) (b : Bool) (w : World) (hT : Tabs w) (h6 : a ≤ 65535) (hc6 : c ≤ 65535) (ha : a < 55296) (hc : 57344 ≤ c) (y1 y2 o1 o2 : ByteArray) (s1 : y1.size = 6) (s2 : y2.size = 6) (t1 : o1.size ≤ 4) (t2 : o2.size ≤ 4) (H : HalvesIn a c b y1 y2 (o1 ++ o2) 14 0)
    (HB1 : ∀ V, Calls Tryd.prog 20 #[.int .i64 (a : Int)] V fun e w' => e = .returned (.string o1) ∧ Below V.heap.size V w') (HB2 : ∀ V, Calls Tryd.prog 20 #[.int .i64 (c : Int)] V fun e w' => e = .returned (.string o2) ∧ Below V.heap.size V w') :
    Calls Tryd.prog 8 #[.int .i64 (a : Int), .int .i64 (c : Int), .bool b] w fun e w' => e = .returned (.bool true) ∧ Below w.heap.size w w' := by
  have HK := Lib.hid known_any
  have HT := Lib.hid hT
  have HH := Lib.hid H
  have HBB1 := Lib.hid HB1
  have HBB2 := Lib.hid HB2
  have a1 : decide ((55296 : Int) ≤ (a : Int)) = false := by simp; omega
  have a2 : decide ((a : Int) < 56320) = true := by simp; omega
  have a3 : decide ((a : Int) < 57344) = true := by simp; omega
  have c1 : decide ((56320 : Int) ≤ (c : Int)) = true := by simp; omega
  have c2 : decide ((c : Int) < 57344) = false := by simp; omega
  have c3 : decide ((55296 : Int) ≤ (c : Int)) = true := by simp; omega
  have f1 : decide ((a : Int) < 0) = false := by simp
  have f2 : decide ((65535 : Int) < (a : Int)) = false := by simp; omega
  have f3 : decide ((c : Int) < 0) = false := by simp
  have f4 : decide ((65535 : Int) < (c : Int)) = false := by simp; omega
  have z1 : y1.size ≤ 6 := by omega
  have z2 : y2.size ≤ 6 := by omega
  have e1 : ((o1 ++ o2).toList == (o1 ++ o2).toList) = true := by simp
  clear s1 s2 H HB1 HB2 hT ha hc h6 hc6
  go_enter Tryd.func8, Tryd.ntmps8
  go_wp2_with fail
  ((with_reducible refine (HH.out.e1 _).mono ?_); rintro e w1 ⟨rfl, rfl⟩)
  go_wp2_with fail
  ((with_reducible refine (HH.out.e2 _).mono ?_); rintro e w1 ⟨rfl, rfl⟩)
  go_wp2_with fail
  ((with_reducible refine (HH.out.un _ HT.out).mono ?_); rintro e w1 ⟨rfl, b1⟩)
  go_wp2_with fail
  ((with_reducible refine (HBB1.out _).mono ?_); rintro e w2 ⟨rfl, b2⟩)
  have k2 := bthen b1 b2
  go_wp2_with fail
  ((with_reducible refine (HBB2.out _).mono ?_); rintro e w3 ⟨rfl, b3⟩)
  have k3 := bthen k2 b3
  go_wp2_with fail
  ((with_reducible refine (HK.out _ (tabs_below HT.out k3)).mono ?_); rintro e w4 ⟨rfl, b4⟩)
  have k4 := bthen k3 b4
  go_wp2
  go_ret
  exact ⟨rfl, k4⟩
set_option maxRecDepth 100000 in
set_option maxHeartbeats 4000000 in
theorem halves_g3 (a c : Nat) (b : Bool) (w : World) (hT : Tabs w) (h6 : a ≤ 65535) (hc6 : c ≤ 65535) (ha : 57344 ≤ a) (hc : c < 55296) (y1 y2 o1 o2 : ByteArray) (s1 : y1.size = 6) (s2 : y2.size = 6) (t1 : o1.size ≤ 4) (t2 : o2.size ≤ 4) (H : HalvesIn a c b y1 y2 (o1 ++ o2) 14 0)
    (HB1 : ∀ V, Calls Tryd.prog 20 #[.int .i64 (a : Int)] V fun e w' => e = .returned (.string o1) ∧ Below V.heap.size V w') (HB2 : ∀ V, Calls Tryd.prog 20 #[.int .i64 (c : Int)] V fun e w' => e = .returned (.string o2) ∧ Below V.heap.size V w') :
    Calls Tryd.prog 8 #[.int .i64 (a : Int), .int .i64 (c : Int), .bool b] w fun e w' => e = .returned (.bool true) ∧ Below w.heap.size w w' := by
  have HK := Lib.hid known_any
  have HT := Lib.hid hT
  have HH := Lib.hid H
  have HBB1 := Lib.hid HB1
  have HBB2 := Lib.hid HB2
  have a1 : decide ((55296 : Int) ≤ (a : Int)) = true := by simp; omega
  have a2 : decide ((a : Int) < 56320) = false := by simp; omega
  have a3 : decide ((a : Int) < 57344) = false := by simp; omega
  have c1 : decide ((56320 : Int) ≤ (c : Int)) = false := by simp; omega
  have c2 : decide ((c : Int) < 57344) = true := by simp; omega
  have c3 : decide ((55296 : Int) ≤ (c : Int)) = false := by simp; omega
  have f1 : decide ((a : Int) < 0) = false := by simp
  have f2 : decide ((65535 : Int) < (a : Int)) = false := by simp; omega
  have f3 : decide ((c : Int) < 0) = false := by simp
  have f4 : decide ((65535 : Int) < (c : Int)) = false := by simp; omega
  have z1 : y1.size ≤ 6 := by omega
  have z2 : y2.size ≤ 6 := by omega
  have e1 : ((o1 ++ o2).toList == (o1 ++ o2).toList) = true := by simp
  clear s1 s2 H HB1 HB2 hT ha hc h6 hc6
  go_enter Tryd.func8, Tryd.ntmps8
  go_wp2_with fail
  ((with_reducible refine (HH.out.e1 _).mono ?_); rintro e w1 ⟨rfl, rfl⟩)
  go_wp2_with fail
  ((with_reducible refine (HH.out.e2 _).mono ?_); rintro e w1 ⟨rfl, rfl⟩)
  go_wp2_with fail
  ((with_reducible refine (HH.out.un _ HT.out).mono ?_); rintro e w1 ⟨rfl, b1⟩)
  go_wp2_with fail
  ((with_reducible refine (HBB1.out _).mono ?_); rintro e w2 ⟨rfl, b2⟩)
  have k2 := bthen b1 b2
  go_wp2_with fail
  ((with_reducible refine (HBB2.out _).mono ?_); rintro e w3 ⟨rfl, b3⟩)
  have k3 := bthen k2 b3
  go_wp2_with fail
  ((with_reducible refine (HK.out _ (tabs_below HT.out k3)).mono ?_); rintro e w4 ⟨rfl, b4⟩)
  have k4 := bthen k3 b4
  go_wp2
  go_ret
  exact ⟨rfl, k4⟩
set_option maxRecDepth 100000 in
set_option maxHeartbeats 4000000 in
theorem halves_g4 (a c : Nat) (b : Bool) (w : World) (hT : Tabs w) (h6 : a ≤ 65535) (hc6 : c ≤ 65535) (ha : 57344 ≤ a) (hc : 57344 ≤ c) (y1 y2 o1 o2 : ByteArray) (s1 : y1.size = 6) (s2 : y2.size = 6) (t1 : o1.size ≤ 4) (t2 : o2.size ≤ 4) (H : HalvesIn a c b y1 y2 (o1 ++ o2) 14 0)
    (HB1 : ∀ V, Calls Tryd.prog 20 #[.int .i64 (a : Int)] V fun e w' => e = .returned (.string o1) ∧ Below V.heap.size V w') (HB2 : ∀ V, Calls Tryd.prog 20 #[.int .i64 (c : Int)] V fun e w' => e = .returned (.string o2) ∧ Below V.heap.size V w') :
    Calls Tryd.prog 8 #[.int .i64 (a : Int), .int .i64 (c : Int), .bool b] w fun e w' => e = .returned (.bool true) ∧ Below w.heap.size w w' := by
  have HK := Lib.hid known_any
  have HT := Lib.hid hT
  have HH := Lib.hid H
  have HBB1 := Lib.hid HB1
  have HBB2 := Lib.hid HB2
  have a1 : decide ((55296 : Int) ≤ (a : Int)) = true := by simp; omega
  have a2 : decide ((a : Int) < 56320) = false := by simp; omega
  have a3 : decide ((a : Int) < 57344) = false := by simp; omega
  have c1 : decide ((56320 : Int) ≤ (c : Int)) = true := by simp; omega
  have c2 : decide ((c : Int) < 57344) = false := by simp; omega
  have c3 : decide ((55296 : Int) ≤ (c : Int)) = true := by simp; omega
  have f1 : decide ((a : Int) < 0) = false := by simp
  have f2 : decide ((65535 : Int) < (a : Int)) = false := by simp; omega
  have f3 : decide ((c : Int) < 0) = false := by simp
  have f4 : decide ((65535 : Int) < (c : Int)) = false := by simp; omega
  have z1 : y1.size ≤ 6 := by omega
  have z2 : y2.size ≤ 6 := by omega
  have e1 : ((o1 ++ o2).toList == (o1 ++ o2).toList) = true := by simp
  clear s1 s2 H HB1 HB2 hT ha hc h6 hc6
  go_enter Tryd.func8, Tryd.ntmps8
  go_wp2_with fail
  ((with_reducible refine (HH.out.e1 _).mono ?_); rintro e w1 ⟨rfl, rfl⟩)
  go_wp2_with fail
  ((with_reducible refine (HH.out.e2 _).mono ?_); rintro e w1 ⟨rfl, rfl⟩)
  go_wp2_with fail
  ((with_reducible refine (HH.out.un _ HT.out).mono ?_); rintro e w1 ⟨rfl, b1⟩)
  go_wp2_with fail
  ((with_reducible refine (HBB1.out _).mono ?_); rintro e w2 ⟨rfl, b2⟩)
  have k2 := bthen b1 b2
  go_wp2_with fail
  ((with_reducible refine (HBB2.out _).mono ?_); rintro e w3 ⟨rfl, b3⟩)
  have k3 := bthen k2 b3
  go_wp2_with fail
  ((with_reducible refine (HK.out _ (tabs_below HT.out k3)).mono ?_); rintro e w4 ⟨rfl, b4⟩)
  have k4 := bthen k3 b4
  go_wp2
  go_ret
  exact ⟨rfl, k4⟩
theorem utfHalves_walk (a c : Int) (b : Bool) (w : World) (hT : Tabs w) (_ha : -9223372036854775808 ≤ a) (_hb : a ≤ 9223372036854775807) (_hc : -9223372036854775808 ≤ c) (_hd : c ≤ 9223372036854775807) :
    Calls Tryd.prog 8 #[.int .i64 a, .int .i64 c, .bool b] w fun e w' => e = .returned (.bool true) ∧ Below w.heap.size w w' := by
  by_cases h : a < 0 ∨ 65535 < a ∨ c < 0 ∨ 65535 < c
  · exact halves_out a c b w hT h
  obtain ⟨x, rfl⟩ : ∃ x : Nat, a = (x : Int) := ⟨a.toNat, by omega⟩
  obtain ⟨z, rfl⟩ : ∃ z : Nat, c = (z : Int) := ⟨c.toNat, by omega⟩
  have hx : x ≤ 65535 := by omega
  have hz : z ≤ 65535 := by omega
  clear h _ha _hb _hc _hd
  have hs1 := esc_size b x
  have hs2 := esc_size (!b) z
  by_cases ha1 : 55296 ≤ x ∧ x < 57344
  · by_cases hp : x < 56320 ∧ 56320 ≤ z ∧ z < 57344
    · obtain ⟨r, hr⟩ : ∃ r, 65536 + 1024 * (x - 55296) + z - 56320 = r := ⟨_, rfl⟩
      exact halves_pair x z b w hT (by omega) (by omega) _ _ _ hs1 hs2 (halvesIn_of b hx hz (two_pair b x z r (by omega) (by omega) hr)) r (by omega) (fun V => refBytes_any _ V (by omega) (by omega))
    · have H := halvesIn_of b hx hz (two_bad1 b x z ha1 hz hp)
      by_cases x1 : x < 56320
      · by_cases z1 : z < 55296
        · exact halves_b1 x z b w hT hx hz (by omega) (by omega) _ _ hs1 hs2 H
        by_cases z2 : z < 56320
        · exact halves_b2 x z b w hT hx hz (by omega) (by omega) _ _ hs1 hs2 H
        · exact halves_b3 x z b w hT hx hz (by omega) (by omega) _ _ hs1 hs2 H
      · by_cases z1 : z < 55296
        · exact halves_b4 x z b w hT hx hz (by omega) (by omega) _ _ hs1 hs2 H
        by_cases z2 : z < 56320
        · exact halves_b5 x z b w hT hx hz (by omega) (by omega) _ _ hs1 hs2 H
        by_cases z3 : z < 57344
        · exact halves_b6 x z b w hT hx hz (by omega) (by omega) _ _ hs1 hs2 H
        · exact halves_b7 x z b w hT hx hz (by omega) (by omega) _ _ hs1 hs2 H
  · by_cases hc1 : 55296 ≤ z ∧ z < 57344
    · have H := halvesIn_of b hx hz (two_bad7 b x z (by omega) hx hc1)
      by_cases x1 : x < 55296
      · by_cases z2 : z < 56320
        · exact halves_h1 x z b w hT hx hz (by omega) (by omega) _ _ hs1 hs2 H
        · exact halves_h2 x z b w hT hx hz (by omega) (by omega) _ _ hs1 hs2 H
      · by_cases z2 : z < 56320
        · exact halves_h3 x z b w hT hx hz (by omega) (by omega) _ _ hs1 hs2 H
        · exact halves_h4 x z b w hT hx hz (by omega) (by omega) _ _ hs1 hs2 H
    · have H := halvesIn_of b hx hz (two_both b x z (by omega) hx (by omega) hz)
      rw [← bs_append] at H
      have B1 := fun V => refBytes_any x V (by omega) (by omega)
      have B2 := fun V => refBytes_any z V (by omega) (by omega)
      have t1 : (bs (encodeRune (x : Int))).size ≤ 4 := by rw [bs_size]; exact encodeRune_le _
      have t2 : (bs (encodeRune (z : Int))).size ≤ 4 := by rw [bs_size]; exact encodeRune_le _
      by_cases x1 : x < 55296
      · by_cases z1 : z < 55296
        · exact halves_g1 x z b w hT hx hz (by omega) (by omega) _ _ _ _ hs1 hs2 t1 t2 H B1 B2
        · exact halves_g2 x z b w hT hx hz (by omega) (by omega) _ _ _ _ hs1 hs2 t1 t2 H B1 B2
      · by_cases z1 : z < 55296
        · exact halves_g3 x z b w hT hx hz (by omega) (by omega) _ _ _ _ hs1 hs2 t1 t2 H B1 B2
        · exact halves_g4 x z b w hT hx hz (by omega) (by omega) _ _ _ _ hs1 hs2 t1 t2 H B1 B2
end Go.Proofs.YtgeefnmgejnemaaDoor
