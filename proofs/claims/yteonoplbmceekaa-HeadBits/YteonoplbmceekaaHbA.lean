/- HeadBits: what the law's strings and rows are. -/
import Derived.Test.YteonoplbmceekaaHdG
import Derived.Deep.DeepCutAuto
import Derived.Deep.RegionHeld
namespace Go.Proofs.Yteonoplbmceekaa.headBits
open Go.RowKit

/-- Eight bytes of nought are made, and become a string. -/
theorem made8 : ∃ (Zc : Array Value) (Z : ByteArray), Z = ⟨#[0, 0, 0, 0, 0, 0, 0, 0]⟩ ∧ (∀ u : World, (Instr.makeSlice 39 (.int .i64 8) (.int .i64 8)).run Try.prog u = .ok (.slice (some ⟨u.heap.size, 0, none⟩) 8 8) (u.alloc (.cells Zc 5))) ∧
    ∀ (g : Nat) (u : World), u.heap[g]? = some (.cells Zc 5 (0, 0)) → (convert 39 9 (.slice (some ⟨g, 0, none⟩) 8 8)).run Try.prog u = .ok (.string Z) u := by
  obtain ⟨i0, hi, hz0, hz1, hz2⟩ := info_parts info5
  refine ⟨((List.replicate 8 (0 : UInt8)).map bv).toArray, _, rfl, fun u => ?_, fun g u hg => ?_⟩
  · have := run_make (P := Try.prog) u 39 5 i0 (.int .u8 0) Try.underlying39 hi hz0 .i64 .i64 8 8 (by decide) (by decide) (by rw [hz2]; decide) (by decide)
    rw [hz1, show (Value.int .u8 0).cells = #[.int .u8 0] from rfl, made_zero] at this
    exact this
  · refine run_convert_bytes_back _ 39 9 5 ⟨g, 0, none⟩ 8 (List.replicate 8 0) Try.underlying39 Try.underlying5 Try.underlying9 fun j hj => ?_
    refine World.news_of_block hg j _ ?_
    simp only [List.getElem?_map, List.getElem?_eq_getElem hj, Option.map_some]
    rfl
/-- Two bytes that lie in a row become a string. -/
theorem conv2 (x y : UInt8) (g : Nat) (u : World) (hg : u.heap[g]? = some (.cells #[.int .u8 (x.toNat : Int), .int .u8 (y.toNat : Int)] 5 (0, 0))) : (convert 39 9 (.slice (some ⟨g, 0, none⟩) 2 2)).run Try.prog u = .ok (.string ⟨#[x, y]⟩) u := by
  refine run_convert_bytes_back _ 39 9 5 ⟨g, 0, none⟩ 2 [x, y] Try.underlying39 Try.underlying5 Try.underlying9 fun j hj => ?_
  refine World.news_of_block hg j _ ?_
  have : j = 0 ∨ j = 1 := by simp at hj; omega
  rcases this with rfl | rfl <;> rfl

/-- The law's sixteen headers, one behind the other. -/
def allV : Array Value := #[.int .i64 0, .bool false, .int .i64 0, .bool false, .bool false, .bool false, .bool false, .int .i64 0, .int .i64 1, .int .i64 0, .bool false, .int .i64 0, .bool false, .bool false, .bool false, .bool false, .int .i64 0, .int .i64 2, .int .i64 0, .bool false, .int .i64 0, .bool false, .bool false, .bool false, .bool false, .int .i64 0, .int .i64 4, .int .i64 0, .bool false, .int .i64 0, .bool false, .bool false, .bool false, .bool false, .int .i64 0, .int .i64 8, .int .i64 0, .bool false, .int .i64 0, .bool false, .bool false, .bool false, .bool false, .int .i64 1, .int .i64 0, .int .i64 0, .bool false, .int .i64 0, .bool false, .bool false, .bool false, .bool false, .int .i64 2, .int .i64 0, .int .i64 0, .bool false, .int .i64 0, .bool false, .bool false, .bool false, .bool false, .int .i64 4, .int .i64 0, .int .i64 0, .bool false, .int .i64 0, .bool false, .bool false, .bool false, .bool true, .int .i64 0, .int .i64 0, .int .i64 0, .bool false, .int .i64 0, .bool false, .bool false, .bool true, .bool false, .int .i64 0, .int .i64 0, .int .i64 0, .bool false, .int .i64 0, .bool false, .bool true, .bool false, .bool false, .int .i64 0, .int .i64 0, .int .i64 0, .bool false, .int .i64 0, .bool true, .bool false, .bool false, .bool false, .int .i64 0, .int .i64 0, .int .i64 0, .bool false, .int .i64 1, .bool false, .bool false, .bool false, .bool false, .int .i64 0, .int .i64 0, .int .i64 0, .bool false, .int .i64 2, .bool false, .bool false, .bool false, .bool false, .int .i64 0, .int .i64 0, .int .i64 0, .bool false, .int .i64 4, .bool false, .bool false, .bool false, .bool false, .int .i64 0, .int .i64 0, .int .i64 0, .bool false, .int .i64 8, .bool false, .bool false, .bool false, .bool false, .int .i64 0, .int .i64 0, .int .i64 0, .bool true, .int .i64 0, .bool false, .bool false, .bool false, .bool false, .int .i64 0, .int .i64 0]

/-- What is known of one bit: its number, its two bytes, its header. -/
structure Bit (k : Nat) (X : Int) (hi lo : UInt8) (S : ByteArray) (H : Array Value) : Prop where
  lt : k < 16
  pos : 0 ≤ X
  top : X < 65536
  shl : wrap64 (2 ^ k) = X
  up : X / 256 = (hi.toNat : Int)
  low : bits .and .i64 X 255 = (lo.toNat : Int)
  str : ⟨#[0, 0]⟩ ++ ⟨#[hi, lo]⟩ ++ ⟨#[0, 0, 0, 0, 0, 0, 0, 0]⟩ = S
  get : ∀ u, Calls Try.prog 9 #[.string S] u fun e w' => e = .returned (.tuple #[.agg H, .agg (cntV 0 0 0 0), .int .i64 0]) ∧ Below u.heap.size u w'
  put : ∀ u, Calls Try.prog 7 #[.agg H, .agg (cntV 0 0 0 0)] u fun e w' => e = .returned (.tuple #[.string S, .int .i64 0]) ∧ Below u.heap.size u w'
  cell : ∀ i, i < 9 → allV[k * 9 + i]? = H[i]?

theorem bit_of (k : Nat) (X : Int) (hi lo : UInt8) (S : ByteArray) (qr : Bool) (op : Int) (aa tc rd ra : Bool) (z rc : Int) (hk : k < 16) (h0 : 0 ≤ X) (h1 : X < 65536) (shl : wrap64 (2 ^ k) = X) (up : X / 256 = (hi.toNat : Int)) (low : bits .and .i64 X 255 = (lo.toNat : Int)) (str : ⟨#[0, 0]⟩ ++ ⟨#[hi, lo]⟩ ++ ⟨#[0, 0, 0, 0, 0, 0, 0, 0]⟩ = S)
    (sz : S.size = 12) (v0 : val S 0 2 = 0) (v1 : val S 2 2 = X) (v2 : val S 4 2 = 0) (v3 : val S 6 2 = 0) (v4 : val S 8 2 = 0) (v5 : val S 10 2 = 0) (hw : headW 0 X = headV 0 qr op aa tc rd ra z rc) (hm : mayH 0 op z rc 0 0 0 0 = true) (hp : putS 0 (wordH qr op aa tc rd ra z rc) 0 0 0 0 4 = S)
    (hc : ∀ i, i < 9 → allV[k * 9 + i]? = (headV 0 qr op aa tc rd ra z rc)[i]?) : Bit k X hi lo S (headV 0 qr op aa tc rd ra z rc) := by
  refine ⟨hk, h0, h1, shl, up, low, str, fun u => ?_, fun u => ?_, hc⟩
  · have h := get_yes S u (max9 (by omega)) (by omega)
    have hc : cntC S 4 = cntV (val S 4 2) (val S 6 2) (val S 8 2) (val S 10 2) := rfl
    rw [hc, v0, v1, v2, v3, v4, v5, hw] at h
    exact h
  · have h := put_yes 0 qr op aa tc rd ra z rc 0 0 0 0 u hm
    rw [hp] at h
    exact h

set_option maxRecDepth 20000 in
theorem nine_cases {k : Nat} {H : Array Value} (h0 : allV[k * 9 + 0]? = H[0]?) (h1 : allV[k * 9 + 1]? = H[1]?) (h2 : allV[k * 9 + 2]? = H[2]?) (h3 : allV[k * 9 + 3]? = H[3]?) (h4 : allV[k * 9 + 4]? = H[4]?) (h5 : allV[k * 9 + 5]? = H[5]?) (h6 : allV[k * 9 + 6]? = H[6]?) (h7 : allV[k * 9 + 7]? = H[7]?) (h8 : allV[k * 9 + 8]? = H[8]?) : ∀ i, i < 9 → allV[k * 9 + i]? = H[i]? := fun i hi => by
  have : i = 0 ∨ i = 1 ∨ i = 2 ∨ i = 3 ∨ i = 4 ∨ i = 5 ∨ i = 6 ∨ i = 7 ∨ i = 8 := by omega
  rcases this with rfl | rfl | rfl | rfl | rfl | rfl | rfl | rfl | rfl <;> assumption

set_option maxRecDepth 20000 in
theorem bit0 : Bit 0 1 0 1 ⟨#[0, 0, 0, 1, 0, 0, 0, 0, 0, 0, 0, 0]⟩ (headV 0 false 0 false false false false 0 1) :=
  bit_of _ _ _ _ _ false 0 false false false false 0 1 (by decide) (by decide) (by decide) (by unfold wrap64; decide) (by decide) (by decide) (by apply ByteArray.ext; decide) rfl (by decide) (by decide) (by decide) (by decide) (by decide) (by decide) rfl (by decide) (by apply ByteArray.ext; decide) (nine_cases rfl rfl rfl rfl rfl rfl rfl rfl rfl)
set_option maxRecDepth 20000 in
theorem bit1 : Bit 1 2 0 2 ⟨#[0, 0, 0, 2, 0, 0, 0, 0, 0, 0, 0, 0]⟩ (headV 0 false 0 false false false false 0 2) :=
  bit_of _ _ _ _ _ false 0 false false false false 0 2 (by decide) (by decide) (by decide) (by unfold wrap64; decide) (by decide) (by decide) (by apply ByteArray.ext; decide) rfl (by decide) (by decide) (by decide) (by decide) (by decide) (by decide) rfl (by decide) (by apply ByteArray.ext; decide) (nine_cases rfl rfl rfl rfl rfl rfl rfl rfl rfl)
set_option maxRecDepth 20000 in
theorem bit2 : Bit 2 4 0 4 ⟨#[0, 0, 0, 4, 0, 0, 0, 0, 0, 0, 0, 0]⟩ (headV 0 false 0 false false false false 0 4) :=
  bit_of _ _ _ _ _ false 0 false false false false 0 4 (by decide) (by decide) (by decide) (by unfold wrap64; decide) (by decide) (by decide) (by apply ByteArray.ext; decide) rfl (by decide) (by decide) (by decide) (by decide) (by decide) (by decide) rfl (by decide) (by apply ByteArray.ext; decide) (nine_cases rfl rfl rfl rfl rfl rfl rfl rfl rfl)
set_option maxRecDepth 20000 in
theorem bit3 : Bit 3 8 0 8 ⟨#[0, 0, 0, 8, 0, 0, 0, 0, 0, 0, 0, 0]⟩ (headV 0 false 0 false false false false 0 8) :=
  bit_of _ _ _ _ _ false 0 false false false false 0 8 (by decide) (by decide) (by decide) (by unfold wrap64; decide) (by decide) (by decide) (by apply ByteArray.ext; decide) rfl (by decide) (by decide) (by decide) (by decide) (by decide) (by decide) rfl (by decide) (by apply ByteArray.ext; decide) (nine_cases rfl rfl rfl rfl rfl rfl rfl rfl rfl)
set_option maxRecDepth 20000 in
theorem bit4 : Bit 4 16 0 16 ⟨#[0, 0, 0, 16, 0, 0, 0, 0, 0, 0, 0, 0]⟩ (headV 0 false 0 false false false false 1 0) :=
  bit_of _ _ _ _ _ false 0 false false false false 1 0 (by decide) (by decide) (by decide) (by unfold wrap64; decide) (by decide) (by decide) (by apply ByteArray.ext; decide) rfl (by decide) (by decide) (by decide) (by decide) (by decide) (by decide) rfl (by decide) (by apply ByteArray.ext; decide) (nine_cases rfl rfl rfl rfl rfl rfl rfl rfl rfl)
set_option maxRecDepth 20000 in
theorem bit5 : Bit 5 32 0 32 ⟨#[0, 0, 0, 32, 0, 0, 0, 0, 0, 0, 0, 0]⟩ (headV 0 false 0 false false false false 2 0) :=
  bit_of _ _ _ _ _ false 0 false false false false 2 0 (by decide) (by decide) (by decide) (by unfold wrap64; decide) (by decide) (by decide) (by apply ByteArray.ext; decide) rfl (by decide) (by decide) (by decide) (by decide) (by decide) (by decide) rfl (by decide) (by apply ByteArray.ext; decide) (nine_cases rfl rfl rfl rfl rfl rfl rfl rfl rfl)
set_option maxRecDepth 20000 in
theorem bit6 : Bit 6 64 0 64 ⟨#[0, 0, 0, 64, 0, 0, 0, 0, 0, 0, 0, 0]⟩ (headV 0 false 0 false false false false 4 0) :=
  bit_of _ _ _ _ _ false 0 false false false false 4 0 (by decide) (by decide) (by decide) (by unfold wrap64; decide) (by decide) (by decide) (by apply ByteArray.ext; decide) rfl (by decide) (by decide) (by decide) (by decide) (by decide) (by decide) rfl (by decide) (by apply ByteArray.ext; decide) (nine_cases rfl rfl rfl rfl rfl rfl rfl rfl rfl)
set_option maxRecDepth 20000 in
theorem bit7 : Bit 7 128 0 128 ⟨#[0, 0, 0, 128, 0, 0, 0, 0, 0, 0, 0, 0]⟩ (headV 0 false 0 false false false true 0 0) :=
  bit_of _ _ _ _ _ false 0 false false false true 0 0 (by decide) (by decide) (by decide) (by unfold wrap64; decide) (by decide) (by decide) (by apply ByteArray.ext; decide) rfl (by decide) (by decide) (by decide) (by decide) (by decide) (by decide) rfl (by decide) (by apply ByteArray.ext; decide) (nine_cases rfl rfl rfl rfl rfl rfl rfl rfl rfl)
set_option maxRecDepth 20000 in
theorem bit8 : Bit 8 256 1 0 ⟨#[0, 0, 1, 0, 0, 0, 0, 0, 0, 0, 0, 0]⟩ (headV 0 false 0 false false true false 0 0) :=
  bit_of _ _ _ _ _ false 0 false false true false 0 0 (by decide) (by decide) (by decide) (by unfold wrap64; decide) (by decide) (by decide) (by apply ByteArray.ext; decide) rfl (by decide) (by decide) (by decide) (by decide) (by decide) (by decide) rfl (by decide) (by apply ByteArray.ext; decide) (nine_cases rfl rfl rfl rfl rfl rfl rfl rfl rfl)
set_option maxRecDepth 20000 in
theorem bit9 : Bit 9 512 2 0 ⟨#[0, 0, 2, 0, 0, 0, 0, 0, 0, 0, 0, 0]⟩ (headV 0 false 0 false true false false 0 0) :=
  bit_of _ _ _ _ _ false 0 false true false false 0 0 (by decide) (by decide) (by decide) (by unfold wrap64; decide) (by decide) (by decide) (by apply ByteArray.ext; decide) rfl (by decide) (by decide) (by decide) (by decide) (by decide) (by decide) rfl (by decide) (by apply ByteArray.ext; decide) (nine_cases rfl rfl rfl rfl rfl rfl rfl rfl rfl)
set_option maxRecDepth 20000 in
theorem bit10 : Bit 10 1024 4 0 ⟨#[0, 0, 4, 0, 0, 0, 0, 0, 0, 0, 0, 0]⟩ (headV 0 false 0 true false false false 0 0) :=
  bit_of _ _ _ _ _ false 0 true false false false 0 0 (by decide) (by decide) (by decide) (by unfold wrap64; decide) (by decide) (by decide) (by apply ByteArray.ext; decide) rfl (by decide) (by decide) (by decide) (by decide) (by decide) (by decide) rfl (by decide) (by apply ByteArray.ext; decide) (nine_cases rfl rfl rfl rfl rfl rfl rfl rfl rfl)
set_option maxRecDepth 20000 in
theorem bit11 : Bit 11 2048 8 0 ⟨#[0, 0, 8, 0, 0, 0, 0, 0, 0, 0, 0, 0]⟩ (headV 0 false 1 false false false false 0 0) :=
  bit_of _ _ _ _ _ false 1 false false false false 0 0 (by decide) (by decide) (by decide) (by unfold wrap64; decide) (by decide) (by decide) (by apply ByteArray.ext; decide) rfl (by decide) (by decide) (by decide) (by decide) (by decide) (by decide) rfl (by decide) (by apply ByteArray.ext; decide) (nine_cases rfl rfl rfl rfl rfl rfl rfl rfl rfl)
set_option maxRecDepth 20000 in
theorem bit12 : Bit 12 4096 16 0 ⟨#[0, 0, 16, 0, 0, 0, 0, 0, 0, 0, 0, 0]⟩ (headV 0 false 2 false false false false 0 0) :=
  bit_of _ _ _ _ _ false 2 false false false false 0 0 (by decide) (by decide) (by decide) (by unfold wrap64; decide) (by decide) (by decide) (by apply ByteArray.ext; decide) rfl (by decide) (by decide) (by decide) (by decide) (by decide) (by decide) rfl (by decide) (by apply ByteArray.ext; decide) (nine_cases rfl rfl rfl rfl rfl rfl rfl rfl rfl)
set_option maxRecDepth 20000 in
theorem bit13 : Bit 13 8192 32 0 ⟨#[0, 0, 32, 0, 0, 0, 0, 0, 0, 0, 0, 0]⟩ (headV 0 false 4 false false false false 0 0) :=
  bit_of _ _ _ _ _ false 4 false false false false 0 0 (by decide) (by decide) (by decide) (by unfold wrap64; decide) (by decide) (by decide) (by apply ByteArray.ext; decide) rfl (by decide) (by decide) (by decide) (by decide) (by decide) (by decide) rfl (by decide) (by apply ByteArray.ext; decide) (nine_cases rfl rfl rfl rfl rfl rfl rfl rfl rfl)
set_option maxRecDepth 20000 in
theorem bit14 : Bit 14 16384 64 0 ⟨#[0, 0, 64, 0, 0, 0, 0, 0, 0, 0, 0, 0]⟩ (headV 0 false 8 false false false false 0 0) :=
  bit_of _ _ _ _ _ false 8 false false false false 0 0 (by decide) (by decide) (by decide) (by unfold wrap64; decide) (by decide) (by decide) (by apply ByteArray.ext; decide) rfl (by decide) (by decide) (by decide) (by decide) (by decide) (by decide) rfl (by decide) (by apply ByteArray.ext; decide) (nine_cases rfl rfl rfl rfl rfl rfl rfl rfl rfl)
set_option maxRecDepth 20000 in
theorem bit15 : Bit 15 32768 128 0 ⟨#[0, 0, 128, 0, 0, 0, 0, 0, 0, 0, 0, 0]⟩ (headV 0 true 0 false false false false 0 0) :=
  bit_of _ _ _ _ _ true 0 false false false false 0 0 (by decide) (by decide) (by decide) (by unfold wrap64; decide) (by decide) (by decide) (by apply ByteArray.ext; decide) rfl (by decide) (by decide) (by decide) (by decide) (by decide) (by decide) rfl (by decide) (by apply ByteArray.ext; decide) (nine_cases rfl rfl rfl rfl rfl rfl rfl rfl rfl)

theorem bit_any (k : Nat) (hk : k < 16) : ∃ X hi lo S qr op aa tc rd ra z rc, Bit k X hi lo S (headV 0 qr op aa tc rd ra z rc) := by
  have : k = 0 ∨ k = 1 ∨ k = 2 ∨ k = 3 ∨ k = 4 ∨ k = 5 ∨ k = 6 ∨ k = 7 ∨ k = 8 ∨ k = 9 ∨ k = 10 ∨ k = 11 ∨ k = 12 ∨ k = 13 ∨ k = 14 ∨ k = 15 := by omega
  rcases this with rfl | rfl | rfl | rfl | rfl | rfl | rfl | rfl | rfl | rfl | rfl | rfl | rfl | rfl | rfl | rfl
  · exact ⟨_, _, _, _, _, _, _, _, _, _, _, _, bit0⟩
  · exact ⟨_, _, _, _, _, _, _, _, _, _, _, _, bit1⟩
  · exact ⟨_, _, _, _, _, _, _, _, _, _, _, _, bit2⟩
  · exact ⟨_, _, _, _, _, _, _, _, _, _, _, _, bit3⟩
  · exact ⟨_, _, _, _, _, _, _, _, _, _, _, _, bit4⟩
  · exact ⟨_, _, _, _, _, _, _, _, _, _, _, _, bit5⟩
  · exact ⟨_, _, _, _, _, _, _, _, _, _, _, _, bit6⟩
  · exact ⟨_, _, _, _, _, _, _, _, _, _, _, _, bit7⟩
  · exact ⟨_, _, _, _, _, _, _, _, _, _, _, _, bit8⟩
  · exact ⟨_, _, _, _, _, _, _, _, _, _, _, _, bit9⟩
  · exact ⟨_, _, _, _, _, _, _, _, _, _, _, _, bit10⟩
  · exact ⟨_, _, _, _, _, _, _, _, _, _, _, _, bit11⟩
  · exact ⟨_, _, _, _, _, _, _, _, _, _, _, _, bit12⟩
  · exact ⟨_, _, _, _, _, _, _, _, _, _, _, _, bit13⟩
  · exact ⟨_, _, _, _, _, _, _, _, _, _, _, _, bit14⟩
  · exact ⟨_, _, _, _, _, _, _, _, _, _, _, _, bit15⟩

end Go.Proofs.Yteonoplbmceekaa.headBits
