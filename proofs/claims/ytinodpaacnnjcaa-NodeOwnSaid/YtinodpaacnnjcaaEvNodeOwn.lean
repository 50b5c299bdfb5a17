/- The law. -/
import Derived.Test.YtinodpaacnnjcaaEvNodeOwnA
import Derived.Test.YtinodpaacnnjcaaEvNodeOwnB
import Derived.Test.YtinodpaacnnjcaaEvNodeOwnC
import Derived.Test.YtinodpaacnnjcaaEvNodeOwnD
import Derived.Test.YtinodpaacnnjcaaStrArgs
set_option linter.unusedSimpArgs false
set_option linter.unusedVariables false
namespace Go.Proofs.Ytinodpaacnnjcaa
open Go.RowKit

/-- Texts rise up to one that doesn't, or all of them do. -/
theorem rise_or (ks : List ByteArray) : ∀ L, 0 < L → (∀ k, k < L - 1 → Op.bytesLess (ks.getD k ByteArray.empty).toList (ks.getD (k + 1) ByteArray.empty).toList = true) ∨
    ∃ m, m < L - 1 ∧ (∀ k, k < m → Op.bytesLess (ks.getD k ByteArray.empty).toList (ks.getD (k + 1) ByteArray.empty).toList = true) ∧ Op.bytesLess (ks.getD m ByteArray.empty).toList (ks.getD (m + 1) ByteArray.empty).toList = false
  | 0, h => absurd h (by omega)
  | 1, _ => .inl fun k hk => absurd hk (by omega)
  | L + 2, _ => by
    rcases rise_or ks (L + 1) (by omega) with h | ⟨m, h1, h2, h3⟩
    · cases hb : Op.bytesLess (ks.getD L ByteArray.empty).toList (ks.getD (L + 1) ByteArray.empty).toList with
      | true =>
        refine .inl fun k hk => ?_
        rcases Nat.lt_or_ge k L with h4 | h4
        · exact h k (by omega)
        · have : k = L := by omega
          subst this; exact hb
      | false => exact .inr ⟨L, by omega, fun k hk => h k (by omega), hb⟩
    · exact .inr ⟨m, by omega, h2, h3⟩

/-- No text, or too many: the length alone. -/
def noLen (L : Nat) (big : Bool) (P : Program) (op : Op) (vs : List Value) : Option Value :=
  match op, vs with
  | .call c, [u] => Ev.rowLen P L c u
  | _, _ => none
def outVal (a : Addr) (L c : Nat) (n : Int) (k : Nat) : Value := match k with | 100 => .slice (some a) L c | 50 => .int .i64 (L : Int) | _ => .int .i64 n
def outFact (big : Bool) (P : Program) (op : Op) (vs : List Value) : Option Value :=
  match op, vs with
  | .call c, [.complex .f64 100 1] => match c.callee, c.argTypes.toList with
    | .builtin .len, [ty] => match P.underlying ty with
      | some (.slice _) => some (.complex .f64 50 1)
      | _ => none
    | _, _ => none
  | .binOp b _ _ _ _, [u, v] => Ev.lookF [⟨.gtr, noV 50, noI 8, .bool big⟩, ⟨.eql, noV 50, noI 0, .bool (!big)⟩] b u v
  | _, _ => none
@[reducible] def outVars (a : Addr) (L c : Nat) (n : Int) (big : Bool) (hb : decide ((L : Int) > 8) = big) (hz : ((L : Int) == 0) = !big) : Ev.Vars where
  on := true
  val := outVal a L c n
  one := by
    intro k
    unfold outVal
    split
    · exact .inr (.inr (.inr ⟨_, _, _, rfl⟩))
    · exact .inl ⟨_, _, rfl⟩
    · exact .inl ⟨_, _, rfl⟩
  ro := fun _ => none
  fact := outFact big
  ok := by
    intro P op ρ vs v w h _ hv
    letI : Ev.Vars := Ev.noVars
    unfold outFact at h
    split at h
    · rename_i vs cl ho
      split at h
      case h_2 => cases h
      rename_i ty hcal hta
      split at h
      case h_2 => cases h
      rename_i el hu
      cases h
      rw [ho] at hv
      have tok : Ev.conc (outVal a L c n) (.complex .f64 100 1) = .slice (some a) L c := rfl
      have tok2 : Ev.conc (outVal a L c n) (.complex .f64 50 1) = .int .i64 (L : Int) := rfl
      simp only [Op.operands, Call.operands, hcal, Array.empty_append, tok, List.map_cons, List.map_nil] at hv
      have hv' : cl.args.map ρ = #[.slice (some a) L c] := by
        apply Array.ext'
        simpa using hv
      have h2 : cl.argTypes = #[ty] := by apply Array.ext'; simpa using hta
      have hg0 : (#[ty] : Array TypeId)[0]? = some ty := rfl
      have ha0 : (#[Value.slice (some a) L c] : Array Value)[0]? = some (.slice (some a) L c) := rfl
      rw [tok2]
      simp [execOp, ho, hcal, hv', h2, hg0, ha0, resolve, invoke, builtin, Builtin.len_, Sem.run_bind, run_underlying hu, goInt]
    · rename_i vs' bo tx ox oy tt u v1 ho
      have hmem := Ev.lookF_mem h
      have hfact : (Ev.Fact.mk bo u v1 v).ok (outVal a L c n) := by
        simp only [List.mem_cons, List.not_mem_nil, or_false] at hmem
        rcases hmem with e | e <;> rw [e]
        · exact .inl ⟨.i64, L, 8, rfl, rfl, by simp only [Ev.intRun]; rw [hb]; rfl⟩
        · exact .inl ⟨.i64, L, 0, rfl, rfl, by simp only [Ev.intRun]; rw [hz]; rfl⟩
      rw [ho] at hv
      simp only [Op.operands, List.map_cons, List.map_nil, List.cons.injEq, and_true] at hv
      obtain ⟨e1, e2⟩ := hv
      rcases hfact with ⟨k, a', b', h1, h2, h3⟩ | ⟨a', b', h1, h2, h3⟩
      · simp only at h1 h2 h3
        rw [h1] at e1; rw [h2] at e2
        simp [execOp, ho, e1, e2, Sem.run_bind, Ev.run_eqGuard_int, Ev.intRun_ok h3]
      · simp only at h1 h2 h3
        rw [h1] at e1; rw [h2] at e2
        simp [execOp, ho, e1, e2, Sem.run_bind, Ev.run_eqGuard_str, Ev.strRun_ok h3]
    · cases h
theorem no_out_t (a : Addr) (L c : Nat) (n : Int) (hb : decide ((L : Int) > 8) = true) (hz : ((L : Int) == 0) = !true) : @Ev.reck (outVars a L c n true hb hz) Try.prog { ev_told with sure := [4] } 1000000 3 [noV 100, noV 8] = true := by kernel_rfl
theorem no_out_f (a : Addr) (L c : Nat) (n : Int) (hb : decide ((L : Int) > 8) = false) (hz : ((L : Int) == 0) = !false) : @Ev.reck (outVars a L c n false hb hz) Try.prog { ev_told with sure := [4] } 1000000 3 [noV 100, noV 8] = true := by kernel_rfl
def nilVal (n : Int) (k : Nat) : Value := .int .i64 n
abbrev nilVars (n : Int) : Ev.Vars := Ev.tabVars (nilVal n) (fun _ => .inl ⟨_, _, rfl⟩) [] [] (fun f hf => by cases hf) (fun m hm => by cases hm)
theorem no_nil (n : Int) (c : Nat) : @Ev.reck (nilVars n) Try.prog { ev_told with sure := [4] } 1000000 3 [.slice none 0 c, noV 8] = true := by kernel_rfl

theorem nodeOwn_walk (A : Option Addr) (c : Nat) (l : List ByteArray) (n : Int) (w : World) (hat : At w w.heap.size 1 A l.length (l.map Value.string)) (_h1 : -9223372036854775808 ≤ n) (_h2 : n ≤ 9223372036854775807) :
    Calls Try.prog 3 #[.slice A l.length c, .int .i64 n] w fun e w' => e = .returned (.bool true) ∧ Below w.heap.size w w' := by
  rcases Nat.eq_zero_or_pos l.length with h0 | h0
  · rw [h0]
    cases A with
    | none => exact @ev_true_by (nilVars n) rfl [4] no_sure _ [.slice none 0 c, noV 8] rfl (no_nil n c) w
    | some a => exact @ev_true_by (outVars a 0 c n false (by decide) (by decide)) rfl [4] no_sure _ [noV 100, noV 8] rfl (no_out_f a 0 c n (by decide) (by decide)) w
  rcases Nat.lt_or_ge 8 l.length with h8 | h8
  · obtain ⟨b, o, rfl, _, _⟩ := hat.2 h0
    have hb : decide ((l.length : Int) > 8) = true := by simp; omega
    have hz : ((l.length : Int) == 0) = !true := beq_eq_false_iff_ne.2 (by omega)
    exact @ev_true_by (outVars _ l.length c n true hb hz) rfl [4] no_sure _ [noV 100, noV 8] rfl (no_out_t _ l.length c n hb hz) w
  obtain ⟨L, hL⟩ : ∃ L, l.length = L := ⟨_, rfl⟩
  rw [hL] at h0 h8 hat ⊢
  rcases rise_or l L h0 with hup | ⟨m, hm, hup, hbad⟩
  · have hc : L = 1 ∨ L = 2 ∨ L = 3 ∨ L = 4 ∨ L = 5 ∨ L = 6 ∨ L = 7 ∨ L = 8 := by omega
    rcases hc with h | h | h | h | h | h | h | h <;> rw [h] at hat hup hL h0 h8 ⊢
    · exact no_in no_1_0 hL h0 h8 hat (by decide) (fun h => by cases h) hup (fun h => by cases h)
    · exact no_in no_2_1 hL h0 h8 hat (by decide) (fun h => by cases h) hup (fun h => by cases h)
    · exact no_in no_3_2 hL h0 h8 hat (by decide) (fun h => by cases h) hup (fun h => by cases h)
    · exact no_in no_4_3 hL h0 h8 hat (by decide) (fun h => by cases h) hup (fun h => by cases h)
    · exact no_in no_5_4 hL h0 h8 hat (by decide) (fun h => by cases h) hup (fun h => by cases h)
    · exact no_in no_6_5 hL h0 h8 hat (by decide) (fun h => by cases h) hup (fun h => by cases h)
    · exact no_in no_7_6 hL h0 h8 hat (by decide) (fun h => by cases h) hup (fun h => by cases h)
    · exact no_in no_8_7 hL h0 h8 hat (by decide) (fun h => by cases h) hup (fun h => by cases h)
  · have hc : L = 2 ∨ L = 3 ∨ L = 4 ∨ L = 5 ∨ L = 6 ∨ L = 7 ∨ L = 8 := by omega
    rcases hc with h | h | h | h | h | h | h <;> rw [h] at hat hm hL h0 h8 ⊢
    · have hm0 : m = 0 := by omega
      rw [hm0] at hup hbad
      exact no_in no_2_0b hL h0 h8 hat (by decide) (fun _ => by decide) hup (fun _ => hbad)
    · have hc : m = 0 ∨ m = 1 := by omega
      rcases hc with h' | h' <;> rw [h'] at hup hbad
      · exact no_in no_3_0b hL h0 h8 hat (by decide) (fun _ => by decide) hup (fun _ => hbad)
      · exact no_in no_3_1b hL h0 h8 hat (by decide) (fun _ => by decide) hup (fun _ => hbad)
    · have hc : m = 0 ∨ m = 1 ∨ m = 2 := by omega
      rcases hc with h' | h' | h' <;> rw [h'] at hup hbad
      · exact no_in no_4_0b hL h0 h8 hat (by decide) (fun _ => by decide) hup (fun _ => hbad)
      · exact no_in no_4_1b hL h0 h8 hat (by decide) (fun _ => by decide) hup (fun _ => hbad)
      · exact no_in no_4_2b hL h0 h8 hat (by decide) (fun _ => by decide) hup (fun _ => hbad)
    · have hc : m = 0 ∨ m = 1 ∨ m = 2 ∨ m = 3 := by omega
      rcases hc with h' | h' | h' | h' <;> rw [h'] at hup hbad
      · exact no_in no_5_0b hL h0 h8 hat (by decide) (fun _ => by decide) hup (fun _ => hbad)
      · exact no_in no_5_1b hL h0 h8 hat (by decide) (fun _ => by decide) hup (fun _ => hbad)
      · exact no_in no_5_2b hL h0 h8 hat (by decide) (fun _ => by decide) hup (fun _ => hbad)
      · exact no_in no_5_3b hL h0 h8 hat (by decide) (fun _ => by decide) hup (fun _ => hbad)
    · have hc : m = 0 ∨ m = 1 ∨ m = 2 ∨ m = 3 ∨ m = 4 := by omega
      rcases hc with h' | h' | h' | h' | h' <;> rw [h'] at hup hbad
      · exact no_in no_6_0b hL h0 h8 hat (by decide) (fun _ => by decide) hup (fun _ => hbad)
      · exact no_in no_6_1b hL h0 h8 hat (by decide) (fun _ => by decide) hup (fun _ => hbad)
      · exact no_in no_6_2b hL h0 h8 hat (by decide) (fun _ => by decide) hup (fun _ => hbad)
      · exact no_in no_6_3b hL h0 h8 hat (by decide) (fun _ => by decide) hup (fun _ => hbad)
      · exact no_in no_6_4b hL h0 h8 hat (by decide) (fun _ => by decide) hup (fun _ => hbad)
    · have hc : m = 0 ∨ m = 1 ∨ m = 2 ∨ m = 3 ∨ m = 4 ∨ m = 5 := by omega
      rcases hc with h' | h' | h' | h' | h' | h' <;> rw [h'] at hup hbad
      · exact no_in no_7_0b hL h0 h8 hat (by decide) (fun _ => by decide) hup (fun _ => hbad)
      · exact no_in no_7_1b hL h0 h8 hat (by decide) (fun _ => by decide) hup (fun _ => hbad)
      · exact no_in no_7_2b hL h0 h8 hat (by decide) (fun _ => by decide) hup (fun _ => hbad)
      · exact no_in no_7_3b hL h0 h8 hat (by decide) (fun _ => by decide) hup (fun _ => hbad)
      · exact no_in no_7_4b hL h0 h8 hat (by decide) (fun _ => by decide) hup (fun _ => hbad)
      · exact no_in no_7_5b hL h0 h8 hat (by decide) (fun _ => by decide) hup (fun _ => hbad)
    · have hc : m = 0 ∨ m = 1 ∨ m = 2 ∨ m = 3 ∨ m = 4 ∨ m = 5 ∨ m = 6 := by omega
      rcases hc with h' | h' | h' | h' | h' | h' | h' <;> rw [h'] at hup hbad
      · exact no_in no_8_0b hL h0 h8 hat (by decide) (fun _ => by decide) hup (fun _ => hbad)
      · exact no_in no_8_1b hL h0 h8 hat (by decide) (fun _ => by decide) hup (fun _ => hbad)
      · exact no_in no_8_2b hL h0 h8 hat (by decide) (fun _ => by decide) hup (fun _ => hbad)
      · exact no_in no_8_3b hL h0 h8 hat (by decide) (fun _ => by decide) hup (fun _ => hbad)
      · exact no_in no_8_4b hL h0 h8 hat (by decide) (fun _ => by decide) hup (fun _ => hbad)
      · exact no_in no_8_5b hL h0 h8 hat (by decide) (fun _ => by decide) hup (fun _ => hbad)
      · exact no_in no_8_6b hL h0 h8 hat (by decide) (fun _ => by decide) hup (fun _ => hbad)

open Go.ChangeShapes Go.WideShapes in
open Go.ChangeMaps (open_string) in
set_option maxRecDepth 1000000 in
theorem nodeOwn_law : LawWalk Try.prog 3 Try.f3 := by
  intro H enc W base args ds p hval hA hsz
  rw [Try.params3] at hA hval hsz
  obtain ⟨v0, vs0, d0, ds0, p0, q0, hargs, rfl, rfl, h0, r0⟩ := trodAll_cons hA
  obtain ⟨v1, vs1, d1, ds1, p1, q1, rfl, rfl, rfl, h1, r1⟩ := trodAll_cons r0
  obtain ⟨rfl, rfl, rfl⟩ := trodAll_nil r1
  obtain rfl : args = #[v0, v1] := by cases args; simp_all
  obtain ⟨A0, c0, l0, rfl, hat0⟩ := open_strs Try.underlying22 Try.underlying9 (by kernel_rfl) (of_decide_eq_true (by kernel_rfl)) (hval 0 _ v0 rfl rfl) h0 hsz (j := 0) rfl rfl
  obtain ⟨n1, rfl, rfl, rfl, wn1⟩ := open_int Try.underlying2 (hval 1 _ v1 rfl rfl) h1
  obtain ⟨ha1, hb1⟩ := i64_in wn1
  exact nodeOwn_walk A0 c0 l0 n1 W hat0 ha1 hb1

set_option maxRecDepth 100000 in
theorem nodeOwn_lifted (os : Os) (started : os.Started) (H : Type) (enc : TypeId × Value → H) :
    ReturnsInHanded {} Try.checked os 3 .any (Rows.nodeOwnSpec.pre6 enc Try.prog Try.f3 Rows.nodeOwnRow.domain false) (Rows.nodeOwnSpec.post enc Try.prog Try.f3 false true false false) :=
  law_lifted (s := Rows.nodeOwnSpec) started (by kernel_rfl) Try.func3 Try.underlying4 rfl rfl
    (by rw [Try.params3]; simp only [List.mem_cons, List.not_mem_nil, or_false, forall_eq_or_imp, forall_eq]; exact ⟨⟨by kernel_rfl, of_decide_eq_true (by kernel_rfl)⟩, ⟨by kernel_rfl, of_decide_eq_true (by kernel_rfl)⟩⟩)
    (fun H ds hl => by match ds, hl with | [_, _], _ => rfl)
    (ChangeSpec.witness6 (enc := enc) (C := Try.checked) false ⟨#[], #[.slice none 0 0, .int .i64 0], []⟩ 8 (by kernel_rfl) (by kernel_rfl) (by kernel_rfl) (by kernel_rfl)) nodeOwn_law

theorem nodeOwn_over : Rows.nodeOwnRow.holds Try.pinned (OpenSpec.ofChange Rows.nodeOwnSpec) :=
  OpenClaim.holds_of_wide 3 Try.f3 rfl rfl rfl rfl rfl rfl rfl ⟨rfl, rfl, rfl, rfl, rfl⟩ rfl rfl rfl rfl rfl (by kernel_rfl) Try.func3 (by kernel_rfl)
    (of_decide_eq_true (by kernel_rfl)) (by unfold Func.isWrapper; first | (rw [if_pos (by decide +kernel)]; kernel_rfl) | (rw [if_neg (by decide +kernel)]; exact ⟨rfl, rfl⟩))
    (fun os started H enc _ => nodeOwn_lifted os started H enc)

theorem nodeOwn_proved : Rows.NodeOwnSaid := nodeOwn_over

end Go.Proofs.Ytinodpaacnnjcaa
