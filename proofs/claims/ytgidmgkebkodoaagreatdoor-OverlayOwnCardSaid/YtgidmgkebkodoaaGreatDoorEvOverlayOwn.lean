/- The law, reckoned by the kernel: the number is a variable, and so are its text and that text's length; the chapter's row first. -/
import Derived.Test.YtgidmgkebkodoaaGreatDoorEvToldM
import Derived.Test.YtgidmgkebkodoaaGreatDoorEvVars
import Derived.Test.YtgidmgkebkodoaaGreatDoorLaidPow
import Derived.Test.YtgidmgkebkodoaaGreatDoorCards
import Derived.Test.YtgidmgkebkodoaaGreatDoorTie
import Derived.Lib.ItoaLen
namespace Go.Proofs.YtgidmgkebkodoaaGreatDoor
open Go.RowKit

def onVal (n : Int) (s : ByteArray) (m : Int) : Nat → Value := fun k => match k with
  | 0 => .int .i64 n
  | 1 => .int .i64 (IntKind.i64.wrap (n + 1))
  | 2 => .int .i64 (IntKind.i64.wrap (n + 2))
  | 3 => .string s
  | 4 => .int .i64 m
  | 5 => .int .i64 (1023 - m)
  | _ => .int .i64 (1022 - m)
theorem on_one (n : Int) (s : ByteArray) (m : Int) : ∀ k, (∃ j i, onVal n s m k = .int j i) ∨ (∃ u, onVal n s m k = .string u) ∨ (∃ a, onVal n s m k = .pointer (some a)) ∨ ∃ a i d, onVal n s m k = .slice (some a) i d := by
  intro k
  unfold onVal
  split <;> first | exact .inl ⟨_, _, rfl⟩ | exact .inr (.inl ⟨_, rfl⟩)
def onFacts : List Ev.Fact := [⟨.add, .complex .f64 0 1, .int .i64 1, .complex .f64 1 1⟩, ⟨.add, .complex .f64 0 1, .int .i64 2, .complex .f64 2 1⟩, ⟨.eql, .complex .f64 0 1, .complex .f64 0 1, .bool true⟩,
  ⟨.gtr, .complex .f64 4 1, .int .i64 1023, .bool false⟩, ⟨.sub, .int .i64 1023, .complex .f64 4 1, .complex .f64 5 1⟩, ⟨.gtr, .int .i64 1, .complex .f64 5 1, .bool false⟩, ⟨.sub, .complex .f64 5 1, .int .i64 1, .complex .f64 6 1⟩]
theorem on_facts (n : Int) (s : ByteArray) (m : Int) (h0 : 0 ≤ m) (h1 : m ≤ 21) : ∀ f ∈ onFacts, f.ok (onVal n s m) := by
  intro f hf
  have w1 : IntKind.i64.wrap (1023 - m) = 1023 - m := by rw [IntKind.wrap_i64]; omega
  have w2 : IntKind.i64.wrap (1023 - m - 1) = 1022 - m := by rw [IntKind.wrap_i64]; omega
  simp only [onFacts, List.mem_cons, List.not_mem_nil, or_false] at hf
  rcases hf with rfl | rfl | rfl | rfl | rfl | rfl | rfl
  · exact .inl ⟨.i64, n, 1, rfl, rfl, rfl⟩
  · exact .inl ⟨.i64, n, 2, rfl, rfl, rfl⟩
  · exact .inl ⟨.i64, n, n, rfl, rfl, by simp [Ev.intRun, Ev.conc]⟩
  · exact .inl ⟨.i64, m, 1023, rfl, rfl, by simp [Ev.intRun, Ev.conc]; omega⟩
  · exact .inl ⟨.i64, 1023, m, rfl, rfl, by simp only [Ev.intRun, Ev.conc, onVal, w1]⟩
  · exact .inl ⟨.i64, 1, 1023 - m, rfl, rfl, by simp [Ev.intRun, Ev.conc]; omega⟩
  · exact .inl ⟨.i64, 1023 - m, 1, rfl, rfl, by simp only [Ev.intRun, Ev.conc, onVal, w2]⟩
theorem on_least (n : Int) (s : ByteArray) (m : Int) : ∀ l ∈ ([] : List Ev.Least), l.ok (onVal n s m) := by
  intro l hl
  cases hl
/-- The length of the number's text. -/
def onLen (P : Program) (op : Op) (vs : List Value) : Option Value :=
  match op, vs with
  | .call c, [.complex .f64 3 1] => match c.callee, c.argTypes.toList with
    | .builtin .len, [ty] => match P.underlying ty with
      | some .string => some (.complex .f64 4 1)
      | _ => none
    | _, _ => none
  | _, _ => none
@[reducible] def onVars (n : Int) (s : ByteArray) (h1 : (s.size : Int) ≤ 21) (x : Obj) : Ev.Vars where
  on := true
  val := onVal n s s.size
  one := on_one n s s.size
  ro := fun b => if b = 2 then some x else none
  fact := fun P op vs => match onLen P op vs with
    | some v => some v
    | none => Ev.factsOf onFacts [] P op vs
  ok := by
    intro P o ρ vs v w h _ hv
    split at h
    · rename_i u hu
      cases h
      unfold onLen at hu
      split at hu
      case h_2 => cases hu
      rename_i op c hop
      split at hu
      case h_2 => cases hu
      rename_i ty hcal hty
      split at hu
      case h_2 => cases hu
      rename_i hund
      cases hu
      rw [hop] at hv
      simp only [Op.operands, Call.operands, hcal, Array.empty_append, List.map_cons, List.map_nil] at hv
      have hargs : c.args.map ρ = #[.string s] := by
        apply Array.ext'
        simpa [Ev.conc, onVal] using hv
      have htys : c.argTypes = #[ty] := by apply Array.ext'; simpa using hty
      simp [execOp, hop, resolve, hcal, hargs, htys, invoke, builtin, Builtin.len_, Sem.run_bind, run_underlying hund, Ev.conc, onVal, goInt]
    · exact (Ev.tabVars (onVal n s s.size) (on_one n s s.size) onFacts [] (on_facts n s s.size (by omega) h1) (on_least n s s.size)).ok P o ρ vs v w h (fun b x hb => by cases hb) hv

theorem overlayKnown_reck : Ev.reckM Tryz.prog { ev_told with sure := [] } [] [] 1000000 15 [] = true := by kernel_rfl
theorem on_sure : ∀ f ∈ [15], Ev.SureOK Tryz.prog f := by
  intro f hf
  rw [List.mem_singleton.1 hf]
  exact evM_sure _ overlayKnown_reck
def onTold : Ev.Told := { ev_told with sure := [15], ans := [(208, [([.complex .f64 0 1, .int .i64 10], .complex .f64 3 1)])] }
theorem overlayOwn_reck (n : Int) (s : ByteArray) (h1 : (s.size : Int) ≤ 21) (x : Obj) :
    @Ev.reckM (onVars n s h1 x) Tryz.prog onTold [] [] 1000000 5 [.complex .f64 0 1] = true := by kernel_rfl
theorem overlayOwn_walk (n : Int) (W : World) (hT : Tabs W) (h0 : -9223372036854775808 ≤ n) (h1 : n ≤ 9223372036854775807) :
    Calls Tryz.prog 5 #[.int .i64 n] W fun e W' => e = .returned (.bool true) ∧ Below W.heap.size W W' := by
  obtain ⟨x, hx⟩ := pow_there hT
  have hlen : (((⟨(Lib.itoa n).toArray⟩ : ByteArray).size : Nat) : Int) ≤ 21 := by
    have := Lib.itoa_length_le n h0 h1
    show (((Lib.itoa n).toArray.size : Nat) : Int) ≤ 21
    simp only [List.size_toArray]
    omega
  letI V : Ev.Vars := onVars n ⟨(Lib.itoa n).toArray⟩ hlen x
  refine Ev.callsM_true (T := onTold) (L := []) (K := []) (args := [.complex .f64 0 1]) ev_mixed (Ev.book_ok Tryz.prog onTold ev_told_ok (fun f hf => on_sure f (Ev.memN_mem hf)) (fun f l hf => by cases hf) ?_) (fun g l h => by cases h) rfl (overlayOwn_reck n _ hlen x) W ?_
  · intro f l hf args v hv
    simp only [onTold, List.mem_cons, List.not_mem_nil, or_false, Prod.mk.injEq] at hf
    obtain ⟨rfl, rfl⟩ := hf
    simp only [List.mem_cons, List.not_mem_nil, or_false, Prod.mk.injEq] at hv
    obtain ⟨rfl, rfl⟩ := hv
    refine ⟨rfl, rfl, fun w hw => ?_⟩
    exact fmt_any hT h0 h1 (by rw [hx]; exact hw 2 x (if_pos rfl))
  · intro b y hb
    by_cases he : b = 2
    · have hb : (if b = 2 then some x else none) = some y := hb
      rw [if_pos he] at hb
      cases hb
      rw [he]; exact hx
    · have hb : (if b = 2 then some x else none) = some y := hb
      rw [if_neg he] at hb
      cases hb

open Go.ChangeShapes Go.WideShapes in
open Go.ChangeMaps (open_string) in
set_option maxRecDepth 1000000 in
theorem overlayOwn_law : LawWalkL Tryz.prog 5 Tryz.f5 Tabs := by
  intro H enc W base args ds p hval hA hsz hT
  rw [Tryz.params5] at hA hval hsz
  obtain ⟨v0, vs0, d0, ds0, p0, q0, hargs, rfl, rfl, h0, r0⟩ := trodAll_cons hA
  obtain ⟨rfl, rfl, rfl⟩ := trodAll_nil r0
  obtain rfl : args = #[v0] := by cases args; simp_all
  obtain ⟨n0, rfl, rfl, rfl, wn0⟩ := open_int Tryz.underlying2 (hval 0 _ v0 rfl rfl) h0
  obtain ⟨ha0, hb0⟩ := i64_in wn0
  exact overlayOwn_walk n0 W hT ha0 hb0

set_option maxRecDepth 100000 in
theorem overlayOwn_witness (os : Os) {H : Type} (enc : TypeId × Value → H) :
    (OpenSpec.ofChange Rows.overlayOwnSpec).preRow enc Tryz.prog Tryz.f5 Rows.overlayOwnRow.domain false Rows.overlayOwnRow.laid ((laidWorld os).forCall (fun _ _ => 0) ⟨#[], #[.int .i64 0], []⟩).memory #[.int .i64 0] := by
  have hw : (DataW.whole enc Tryz.prog ((laidWorld os).forCall (fun _ _ => 0) ⟨#[], #[.int .i64 0], []⟩).memory Tryz.f5.params.toList (OpenSpec.ofChange Rows.overlayOwnSpec).vars false (#[.int .i64 0] : Array Value).toList 8).map (fun x => (x.1, x.2.1)) =
      some ([.lit (.int .i64 0)], []) := by kernel_rfl
  obtain ⟨⟨x1, x2, x3⟩, hx, hx1⟩ := Option.map_eq_some_iff.1 hw
  simp only [Prod.mk.injEq] at hx1
  obtain ⟨rfl, rfl⟩ := hx1
  exact OpenSpec.preRow_of_cond 8 hx (by kernel_rfl) (fun k hk => by cases hk) (by kernel_rfl) (laid_met os _)

set_option maxRecDepth 100000 in
theorem overlayOwn_lifted (os : Os) (started : os.Started) (H : Type) (enc : TypeId × Value → H) (F : Stop.Interp) :
    ReturnsInHanded {} Tryz.checked os 5 .any ((OpenSpec.ofChange Rows.overlayOwnSpec).preRow enc Tryz.prog Tryz.f5 Rows.overlayOwnRow.domain false Rows.overlayOwnRow.laid) (((OpenSpec.ofChange Rows.overlayOwnSpec).at F).post enc Tryz.prog Tryz.f5 false true false false) :=
  law_lifted_laid (s := Rows.overlayOwnSpec) (laid := seatLaid) (T := Tabs) started (by kernel_rfl) Tryz.func5 Tryz.underlying4 rfl rfl
    (by rw [Tryz.params5]; simp only [List.mem_cons, List.not_mem_nil, or_false, forall_eq]; exact ⟨by kernel_rfl, of_decide_eq_true (by kernel_rfl)⟩)
    (fun H ds hl => by match ds, hl with | [_], _ => rfl)
    tabs_of_laid
    (witness_row_atRef (enc := enc) (C := Tryz.checked) false (laidWorld os) #[.int .i64 0] rfl (by kernel_rfl) (by kernel_rfl) (by kernel_rfl) (overlayOwn_witness os enc)) overlayOwn_law

theorem overlayOwn_over : Rows.overlayOwnRow.holds Tryz.pinned (OpenSpec.ofChange Rows.overlayOwnSpec) :=
  OpenClaim.holds_of_cond 5 Tryz.f5 rfl rfl rfl rfl rfl rfl rfl ⟨rfl, rfl, rfl, rfl, rfl⟩ rfl rfl rfl rfl rfl (by kernel_rfl) Tryz.func5 (by kernel_rfl)
    (of_decide_eq_true (by kernel_rfl)) (by unfold Func.isWrapper; first | (rw [if_pos (by decide +kernel)]; kernel_rfl) | (rw [if_neg (by decide +kernel)]; exact ⟨rfl, rfl⟩))
    (fun os started H enc _ F => by rw [OpenClaim.pre_eq_preRow]; exact overlayOwn_lifted os started H enc F)

set_option maxRecDepth 100000 in
theorem overlayOwn_proved : Rows.OverlayOwnCardSaid :=
  Claim7.holds_tied_plain_at .later [] Rows.overlayOwnCard.laidKinds Rows.overlayOwnCard.laidTests Rows.overlayOwnCard.stood.harness Rows.overlayOwnCard.stood.looks
    overlayOwn_over (fun _ h => by cases h) (by kernel_rfl) (fun _ h => by cases h) overlayOwn_row_tie rfl ⟨rfl, rfl⟩ (by kernel_rfl) (by kernel_rfl)
    (fun f fn hf hfn => by
      obtain rfl : f = 5 := (Option.some.inj ((show Tryz.prog.funcNamed Rows.overlayOwnRow.func = some 5 by kernel_rfl).symm.trans hf)).symm
      obtain rfl : fn = Tryz.f5 := (Option.some.inj ((Tryz.func5).symm.trans hfn)).symm
      refine ⟨by kernel_rfl, fun j t ht => ?_⟩
      have hall : (Tryz.f5.params.toList.all fun t => !Tryz.prog.wantsStandIn t) = true := by kernel_rfl
      have h1 := List.all_eq_true.1 hall t (List.mem_of_getElem? (i := j) (by rw [Array.getElem?_toList]; exact ht))
      have h2 : Tryz.prog.wantsStandIn t = false := by simpa using h1
      exact h2)
    (by kernel_rfl)

end Go.Proofs.YtgidmgkebkodoaaGreatDoor
