/- Strings as lists of bytes: words of our own. -/
import Derived.Test.YtgeefnmgejnemaaDoorWords
import Derived.Lib.Strings
import Derived.Laws.BytesArg
import Derived.Laws.Concat
namespace Go.Proofs.YtgeefnmgejnemaaDoor
open Go.RowKit

/-- The string of these bytes. -/
def bs (l : List UInt8) : ByteArray := ⟨l.toArray⟩
theorem bs_data (l : List UInt8) : (bs l).data.toList = l := rfl
theorem bs_toList (l : List UInt8) : (bs l).toList = l := by rw [Lib.toList_data, bs_data]
theorem bs_size (l : List UInt8) : (bs l).size = l.length := by rw [Lib.size_eq, bs_data]
theorem bs_of (s : ByteArray) : s = bs s.data.toList := by cases s; rfl
theorem bs_ext {s t : ByteArray} (h : s.data.toList = t.data.toList) : s = t := by rw [bs_of s, bs_of t, h]
theorem eq_bs {s : ByteArray} {l : List UInt8} (h : s.data.toList = l) : s = bs l := by rw [← h]; exact bs_of s
theorem bs_eql (a b : List UInt8) : ((bs a).toList == (bs b).toList) = (a == b) := by rw [bs_toList, bs_toList]
theorem bs_take (l : List UInt8) (n : Nat) : (bs l).extract 0 n = bs (l.take n) := eq_bs (by rw [Lib.extract_data, bs_data]; simp)
theorem bs_drop (l : List UInt8) (n : Nat) : (bs l).extract n (bs l).size = bs (l.drop n) := eq_bs (by rw [Lib.extract_data, bs_data, bs_size, ← List.length_drop, List.take_length])
theorem bs_append (a b : List UInt8) : bs a ++ bs b = bs (a ++ b) := eq_bs (by rw [ByteArray.data_append, Array.toList_append, bs_data, bs_data])
theorem bs_get (l : List UInt8) (k : Nat) (h : k < (bs l).size) : (((bs l)[k]'h).toNat : Int) = ((l.getD k 0).toNat : Int) := by
  have hl : k < l.length := by rw [bs_size] at h; exact h
  have : (bs l)[k]'h = l.getD k 0 := by
    rw [List.getD, List.getElem?_eq_getElem hl]
    rfl
  rw [this]
/-- 'string([]byte{x})', the byte laid in a block of its own. -/
theorem conv_one {P : Program} {src e dst : TypeId} (hs : P.underlying src = some (.slice e)) (he : P.underlying e = some (.int .u8)) (hd : P.underlying dst = some .string) (x : UInt8) (k : Int) (hk : k = (x.toNat : Int)) (W : World) (b : Nat)
    (h : W.cell? ⟨b, 0, none⟩ = some (.int .u8 k)) : (convert src dst (.slice (some ⟨b, 0, none⟩) 1 1)).run P W = .ok (.string (bs [x])) W := by
  rw [run_convert_bytes_arg W src e hs he b 0 1 1 [k] rfl (fun i hi => by obtain rfl : i = 0 := by omega
                                                                          exact h) dst hd]
  have : strOfNums [k] = bs [x] := eq_bs (by rw [strOfNums_data, hk]; simp)
  rw [this]
theorem add_run {P : Program} (a b : ByteArray) (h : a.size + b.size ≤ 9223372036854775807) (c : ByteArray) (hc : c = a ++ b) (W : World) : (Op.stringOp .add a b).run P W = .ok (.string c) W := by
  rw [run_string_add_sum W a b h, hc]
end Go.Proofs.YtgeefnmgejnemaaDoor
