import Derived.Test.YtponmokiogdejaaNetDo3
namespace Go.Proofs.Ytponmokiogdejaa
open Go.RowKit Go.ChangeShapes Go.WideShapes
set_option linter.unusedSimpArgs false
set_option linter.unusedVariables false

/-- The six cells of a call that came in. -/
def ActI (w : World) (cs : List Value) (a : NAct) : Prop := ∃ B d, cs = [.int .i64 a.kind, .int .u64 (a.tow : Int), .slice B a.fr.length d, .int .i64 a.at_, .int .i64 a.n, .int .u8 (a.mask.toNat : Int)] ∧ a.ok ∧ At w w.heap.size 1 B a.fr.length (a.fr.map u8v)
theorem act_size : Try.prog.cellsOf 36 = 6 := by kernel_rfl
theorem act_by : 1 ≤ Try.prog.bytesOf 36 := of_decide_eq_true (by kernel_rfl)
theorem one_int : Try.prog.cellsOf 3 = 1 := by kernel_rfl
theorem one_u64 : Try.prog.cellsOf 33 = 1 := by kernel_rfl
theorem one_u8t : Try.prog.cellsOf 5 = 1 := by kernel_rfl
theorem by_u8t : 1 ≤ Try.prog.bytesOf 5 := of_decide_eq_true (by kernel_rfl)
theorem one_bytes : Try.prog.cellsOf 34 = 1 := by kernel_rfl
theorem open_acts {H : Type} {enc : TypeId × Value → H} {W : World} {base j : Nat} {v : Value} {d : DataW H} {p : List MemPlace} {ts : List TypeId} {ds : List (DataW H)}
    (hv : Value.okWide Try.prog W .any base 22 v) (h : DataW.Trod enc Try.prog W 0 (fun _ => true) true 22 v d p)
    (hsz : (DataW.weightsEach Try.prog ts ds).all (· ≤ reachBytes) = true) (ht : ts[j]? = some 22) (hd : ds[j]? = some d) :
    ∃ A cap xs, ∃ l : List NAct, v = .slice A l.length cap ∧ At W W.heap.size 6 A l.length xs ∧ RowsO 6 (ActI W) xs l := by
  obtain ⟨a0, len, cap, rfl⟩ := okWide_slice Try.underlying22 hv
  obtain ⟨fuel, hf⟩ := h
  have hw : ∀ y ∈ d.weights Try.prog 22, y ≤ reachBytes := fun y hy => of_decide_eq_true (List.all_eq_true.1 hsz y (DataW.weights_mem_each ht hd y hy))
  have hf' : DataW.trod enc Try.prog W 0 (fun _ => true) true fuel 22 [.slice a0 len cap] = some (d, p) := hf
  obtain ⟨A, c, xs, l, e, h1, h2, _, _⟩ := rows_inT (α := NAct) (q := ActI W) Try.underlying22 act_size (by decide) act_by (fun k hk cs x hx hwx => by
    obtain ⟨ys, n, rfl, rfl, hl, hxl, hx⟩ := DataW.trod_struct Try.underlying36 hx
    rw [act_size] at hl
    obtain ⟨a0, a1, a2, a3, a4, a5, rfl⟩ := six_ofT hl
    have F := fun i ty off hf => field_ofT hx i ty off hf hxl Try.underlying36 hwx
    obtain ⟨x0, h0, w0⟩ := F 0 3 0 rfl
    obtain ⟨x1, h1, w1⟩ := F 1 33 1 rfl
    obtain ⟨x2, h2, w2⟩ := F 2 34 2 rfl
    obtain ⟨x3, h3, w3⟩ := F 3 3 3 rfl
    obtain ⟨x4, h4, w4⟩ := F 4 3 4 rfl
    obtain ⟨x5, h5, w5⟩ := F 5 5 5 rfl
    rw [one_int] at h0 h3 h4
    rw [one_u64] at h1
    rw [one_bytes] at h2
    rw [one_u8t] at h5
    obtain ⟨kd, rfl, _⟩ := int_inT Try.underlying3 h0
    obtain ⟨tz, rfl, htz⟩ := int_inT Try.underlying33 h1
    obtain ⟨tw, rfl, htw⟩ := u64_nat htz
    obtain ⟨B, cap, fr, rfl, hat, _, hfr⟩ := bytes_inT Try.underlying34 Try.underlying5 one_u8t by_u8t h2 w2
    obtain ⟨ai, rfl, _⟩ := int_inT Try.underlying3 h3
    obtain ⟨ni, rfl, hni⟩ := int_inT Try.underlying3 h4
    obtain ⟨mz, rfl, hmz⟩ := int_inT Try.underlying5 h5
    obtain ⟨m, rfl, hm⟩ := u8_nat hmz
    have hn := i64_in hni
    exact ⟨⟨kd, tw, fr, ai, ni, UInt8.ofNat m⟩, B, cap, by rw [show (UInt8.ofNat m).toNat = m by rw [UInt8.toNat_ofNat']; omega], ⟨htw, hfr, hn.1, hn.2⟩, hat⟩) hf' hw
  injection e with e1 e2 e3
  subst e1 e2 e3
  exact ⟨_, _, xs, l, rfl, h1, h2⟩
/-- The cells of a call in a row. -/
theorem act_row {w : World} {A : Option Addr} {xs : List Value} {l : List NAct} (h1 : At w w.heap.size 6 A l.length xs) (h2 : RowsO 6 (ActI w) xs l) {k : Nat} (hk : k < l.length) :
    ∃ b o B d, A = some ⟨b, o, none⟩ ∧ b < w.heap.size ∧ (w.cell? ⟨b, o + k * 6, none⟩ = some (.int .i64 l[k].kind) ∧ w.cell? ⟨b, o + k * 6 + 1, none⟩ = some (.int .u64 (l[k].tow : Int)) ∧ w.cell? ⟨b, o + k * 6 + 2, none⟩ = some (.slice B l[k].fr.length d) ∧
      w.cell? ⟨b, o + k * 6 + 3, none⟩ = some (.int .i64 l[k].at_) ∧ w.cell? ⟨b, o + k * 6 + 4, none⟩ = some (.int .i64 l[k].n) ∧ w.cell? ⟨b, o + k * 6 + 5, none⟩ = some (.int .u8 (l[k].mask.toNat : Int))) ∧ l[k].ok ∧ At w w.heap.size 1 B l[k].fr.length (l[k].fr.map u8v) := by
  obtain ⟨b, o, e, hb, hc⟩ := h1.2 (by omega)
  obtain ⟨B, d, e0, e1, e2⟩ := h2.2 k _ (List.getElem?_eq_getElem hk)
  have hg : ∀ i u, ([.int .i64 l[k].kind, .int .u64 (l[k].tow : Int), .slice B l[k].fr.length d, .int .i64 l[k].at_, .int .i64 l[k].n, .int .u8 (l[k].mask.toNat : Int)] : List Value)[i]? = some u → w.cell? ⟨b, o + k * 6 + i, none⟩ = some u := fun i u hu => by
    rw [← e0, List.getElem?_take] at hu
    split at hu
    · rw [List.getElem?_drop] at hu
      have := hc (k * 6 + i) u hu
      rwa [← Nat.add_assoc] at this
    · cases hu
  exact ⟨b, o, B, d, e, hb, ⟨hg 0 _ rfl, hg 1 _ rfl, hg 2 _ rfl, hg 3 _ rfl, hg 4 _ rfl, hg 5 _ rfl⟩, e1, e2⟩
theorem step_len (a : NAct) (L : List Let) : (a.step L).length ≤ L.length + 1 := by
  unfold NAct.step
  have h1 : ∀ i, (dropX L i).1.length ≤ L.length + 1 := fun i => by
    unfold dropX
    split
    · simp only [List.length_eraseIdx]; split <;> omega
    · simp
  have h2 : ∀ i, (doubleX L i).1.length ≤ L.length + 1 := fun i => by
    unfold doubleX
    split <;> simp
  have h3 : ∀ i n m, (spoilAt L i n m).1.length ≤ L.length + 1 := fun i n m => by
    unfold spoilAt
    split <;> simp
  split
  · simp
  split
  · exact h1 _
  split
  · exact h2 _
  split
  · exact h3 _ _ _
  omega
end Go.Proofs.Ytponmokiogdejaa
