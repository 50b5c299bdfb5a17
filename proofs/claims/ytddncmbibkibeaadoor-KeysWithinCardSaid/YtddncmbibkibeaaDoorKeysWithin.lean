/- KeysWithin answers true at every input, and every argument reads afterwards as it did: 'keysWithin_proved'. Conditions: none but the statement's own. -/
import Derived.Test.YtddncmbibkibeaaDoorKeysKnown
import Derived.Test.YtddncmbibkibeaaDoorLaid
import Derived.Test.YtddncmbibkibeaaDoorCards
import Derived.Test.YtddncmbibkibeaaDoorTie
namespace Go.Proofs.YtddncmbibkibeaaDoor
open Go.RowKit Utf Keys
open Go.Lib (validD hasPrefix)

theorem keysWithin_walk (k lo hi : ByteArray) (op : Bool) (w : World) (hT : Tabs w) (_hk : k.size ≤ 140737488351232) (_hl : lo.size ≤ 140737488351232) (_hh : hi.size ≤ 140737488351232) :
    Calls Tryd.prog 7 #[.string k, .string lo, .string hi, .bool op] w fun e w' => e = .returned (.bool true) ∧ Below w.heap.size w w' := by
  obtain ⟨q, hq⟩ : ∃ q, q = within k.data.toList lo.data.toList hi.data.toList op := ⟨_, rfl⟩
  have c1 := within_any k.data.toList lo.data.toList hi.data.toList op w
  have c2 := refWithin_any k.data.toList lo.data.toList hi.data.toList op w
  rw [← bs_of, ← bs_of, ← bs_of, ← hq] at c1 c2
  have HC := Lib.hid c1
  have HD := Lib.hid c2
  have hqq : (q == q) = true := by simp
  clear c1 c2 hq
  go_enter Tryd.func7, Tryd.ntmps7
  go_wp2_with fail
  ((with_reducible refine HC.out.mono ?_); rintro e w1 ⟨rfl, rfl⟩)
  go_wp2_with fail
  ((with_reducible refine HD.out.mono ?_); rintro e w2 ⟨rfl, rfl⟩)
  go_wp2_with fail
  ((with_reducible refine (keysKnown_any _ hT).mono ?_); rintro e w3 ⟨rfl, b3⟩)
  go_wp2
  go_ret
  exact ⟨rfl, b3⟩

open Go.ChangeShapes Go.WideShapes in
open Go.ChangeMaps (open_string) in
theorem keysWithin_law : LawWalkL Tryd.prog 7 Tryd.f7 Tabs := by
  intro H enc W base args ds p hval hA hsz hT
  rw [Tryd.params7] at hA hval hsz
  obtain ⟨v0, vs0, d0, ds0, p0, q0, hargs, rfl, rfl, h0, r0⟩ := trodAll_cons hA
  obtain ⟨v1, vs1, d1, ds1, p1, q1, rfl, rfl, rfl, h1, r1⟩ := trodAll_cons r0
  obtain ⟨v2, vs2, d2, ds2, p2, q2, rfl, rfl, rfl, h2, r2⟩ := trodAll_cons r1
  obtain ⟨v3, vs3, d3, ds3, p3, q3, rfl, rfl, rfl, h3, r3⟩ := trodAll_cons r2
  obtain ⟨rfl, rfl, rfl⟩ := trodAll_nil r3
  obtain rfl : args = #[v0, v1, v2, v3] := by cases args; simp_all
  obtain ⟨s0, rfl, rfl, rfl, hs0⟩ := open_string Tryd.underlying9 (hval 0 _ v0 rfl rfl) h0
  obtain ⟨s1, rfl, rfl, rfl, hs1⟩ := open_string Tryd.underlying9 (hval 1 _ v1 rfl rfl) h1
  obtain ⟨s2, rfl, rfl, rfl, hs2⟩ := open_string Tryd.underlying9 (hval 2 _ v2 rfl rfl) h2
  obtain ⟨b3, rfl, rfl, rfl⟩ := open_bool Tryd.underlying4 (hval 3 _ v3 rfl rfl) h3
  exact keysWithin_walk s0 s1 s2 b3 W hT (string_reach hsz (j := 0) rfl rfl) (string_reach hsz (j := 1) rfl rfl) (string_reach hsz (j := 2) rfl rfl)

set_option maxRecDepth 100000 in
theorem keysWithin_witness (os : Os) {H : Type} (enc : TypeId × Value → H) :
    (OpenSpec.ofChange Rows.keysWithinSpec).preRow enc Tryd.prog Tryd.f7 Rows.keysWithinRow.domain false Rows.keysWithinRow.laid ((laidWorld os).forCall (fun _ _ => 0) ⟨#[], #[.string ByteArray.empty, .string ByteArray.empty, .string ByteArray.empty, .bool false], []⟩).memory #[.string ByteArray.empty, .string ByteArray.empty, .string ByteArray.empty, .bool false] := by
  have hw : (DataW.whole enc Tryd.prog ((laidWorld os).forCall (fun _ _ => 0) ⟨#[], #[.string ByteArray.empty, .string ByteArray.empty, .string ByteArray.empty, .bool false], []⟩).memory Tryd.f7.params.toList (OpenSpec.ofChange Rows.keysWithinSpec).vars false (#[.string ByteArray.empty, .string ByteArray.empty, .string ByteArray.empty, .bool false] : Array Value).toList 8).map (fun x => (x.1, x.2.1)) =
      some ([.lit (.string []), .lit (.string []), .lit (.string []), .lit (.bool false)], []) := by kernel_rfl
  obtain ⟨⟨x1, x2, x3⟩, hx, hx1⟩ := Option.map_eq_some_iff.1 hw
  simp only [Prod.mk.injEq] at hx1
  obtain ⟨rfl, rfl⟩ := hx1
  exact OpenSpec.preRow_of_cond 8 hx (by kernel_rfl) (fun k hk => by cases hk) (by kernel_rfl) (laid_met os _)

set_option maxRecDepth 100000 in
theorem keysWithin_lifted (os : Os) (started : os.Started) (H : Type) (enc : TypeId × Value → H) (F : Stop.Interp) :
    ReturnsInHanded {} Tryd.checked os 7 .any ((OpenSpec.ofChange Rows.keysWithinSpec).preRow enc Tryd.prog Tryd.f7 Rows.keysWithinRow.domain false Rows.keysWithinRow.laid) (((OpenSpec.ofChange Rows.keysWithinSpec).at F).post enc Tryd.prog Tryd.f7 false true false false) :=
  law_lifted_laid (s := Rows.keysWithinSpec) (laid := seatLaid) (T := Tabs) started (by kernel_rfl) Tryd.func7 Tryd.underlying4 rfl rfl
    (by rw [Tryd.params7]; simp only [List.mem_cons, List.not_mem_nil, or_false, forall_eq_or_imp, forall_eq]; exact ⟨⟨by kernel_rfl, of_decide_eq_true (by kernel_rfl)⟩, ⟨by kernel_rfl, of_decide_eq_true (by kernel_rfl)⟩, ⟨by kernel_rfl, of_decide_eq_true (by kernel_rfl)⟩, ⟨by kernel_rfl, of_decide_eq_true (by kernel_rfl)⟩⟩)
    (fun H ds hl => by match ds, hl with | [_, _, _, _], _ => rfl)
    tabs_of_laid
    (witness_row_atRef (enc := enc) (C := Tryd.checked) false (laidWorld os) #[.string ByteArray.empty, .string ByteArray.empty, .string ByteArray.empty, .bool false] rfl (by kernel_rfl) (by kernel_rfl) (by kernel_rfl) (keysWithin_witness os enc)) keysWithin_law

theorem keysWithin_over : Rows.keysWithinRow.holds Tryd.pinned (OpenSpec.ofChange Rows.keysWithinSpec) :=
  OpenClaim.holds_of_cond 7 Tryd.f7 rfl rfl rfl rfl rfl rfl rfl ⟨rfl, rfl, rfl, rfl, rfl⟩ rfl rfl rfl rfl rfl (by kernel_rfl) Tryd.func7 (by kernel_rfl)
    (of_decide_eq_true (by kernel_rfl)) (by unfold Func.isWrapper; first | (rw [if_pos (by decide +kernel)]; kernel_rfl) | (rw [if_neg (by decide +kernel)]; exact ⟨rfl, rfl⟩))
    (fun os started H enc _ F => by rw [OpenClaim.pre_eq_preRow]; exact keysWithin_lifted os started H enc F)

set_option maxRecDepth 100000 in
theorem keysWithin_proved : Rows.KeysWithinCardSaid :=
  Claim7.holds_tied_plain_at .later [] Rows.keysWithinCard.laidKinds Rows.keysWithinCard.laidTests Rows.keysWithinCard.stood.harness Rows.keysWithinCard.stood.looks
    keysWithin_over (fun _ h => by cases h) (by kernel_rfl) (fun _ h => by cases h) keysWithin_row_tie rfl ⟨rfl, rfl⟩ (by kernel_rfl) (by kernel_rfl)
    (fun f fn hf hfn => by
      obtain rfl : f = 7 := (Option.some.inj ((show Tryd.prog.funcNamed Rows.keysWithinRow.func = some 7 by kernel_rfl).symm.trans hf)).symm
      obtain rfl : fn = Tryd.f7 := (Option.some.inj ((Tryd.func7).symm.trans hfn)).symm
      refine ⟨by kernel_rfl, fun j t ht => ?_⟩
      have hall : (Tryd.f7.params.toList.all fun t => !Tryd.prog.wantsStandIn t) = true := by kernel_rfl
      have h1 := List.all_eq_true.1 hall t (List.mem_of_getElem? (by simpa using ht))
      have h2 : Tryd.prog.wantsStandIn t = false := by simpa using h1
      exact h2)
    (by kernel_rfl)

end Go.Proofs.YtddncmbibkibeaaDoor
