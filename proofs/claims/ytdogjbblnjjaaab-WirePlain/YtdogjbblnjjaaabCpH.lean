/- What Name of a Writer of package comp gives. -/
import Derived.Test.YtdogjbblnjjaaabCpG
namespace Go.Proofs.Ytdogjbblnjjaaab
open Go.RowKit
open Pl

/-- What Name of a Writer answers, and what it leaves. -/
def namE (B : List UInt8) (ms : Marks) (n : List UInt8) : Int := if isName n = true then (if B.length + sizW ms n ≤ 4096 then 0 else 501) else 500
def namB (B : List UInt8) (ms : Marks) (n : List UInt8) : List UInt8 := if isName n = true ∧ B.length + sizW ms n ≤ 4096 then outW B ms n else B
def namM (B : List UInt8) (ms : Marks) (n : List UInt8) : Marks := if isName n = true ∧ B.length + sizW ms n ≤ 4096 then marW B ms n else ms
theorem nam_no {B : List UInt8} {ms : Marks} {n : List UInt8} (h : isName n = false) : namE B ms n = 500 ∧ namB B ms n = B ∧ namM B ms n = ms := by
  unfold namE namB namM; simp [h]
theorem nam_long {B : List UInt8} {ms : Marks} {n : List UInt8} (h : isName n = true) (h2 : ¬ B.length + sizW ms n ≤ 4096) : namE B ms n = 501 ∧ namB B ms n = B ∧ namM B ms n = ms := by
  unfold namE namB namM; rw [if_pos h, if_neg h2, if_neg (fun e => h2 e.2), if_neg (fun e => h2 e.2)]; exact ⟨rfl, rfl, rfl⟩
theorem nam_yes {B : List UInt8} {ms : Marks} {n : List UInt8} (h : isName n = true) (h2 : B.length + sizW ms n ≤ 4096) : namE B ms n = 0 ∧ namB B ms n = outW B ms n ∧ namM B ms n = marW B ms n := by
  unfold namE namB namM; rw [if_pos h, if_pos h2, if_pos ⟨h, h2⟩, if_pos ⟨h, h2⟩]; exact ⟨rfl, rfl, rfl⟩

/-- What is known of a Writer's bytes and rests. -/
def Fine (B : List UInt8) (ms : Marks) : Prop := B.length ≤ 4096 ∧ ms.length ≤ B.length ∧ ∀ r q, plc ms r = some q → q < B.length
theorem fine_nil : Fine [] [] := ⟨by decide, by decide, fun r q h => by simp [plc] at h⟩
theorem fine_raw {B : List UInt8} {ms : Marks} (h : Fine B ms) (s : ByteArray) : Fine (rawB B s) ms := by
  unfold rawB
  split
  · rename_i hs
    refine ⟨by rw [List.length_append, data_len]; exact hs, by rw [List.length_append]; have := h.2.1; omega, fun r q hq => ?_⟩
    have := h.2.2 r q hq
    rw [List.length_append]; omega
  · exact h
theorem outW_len {B : List UInt8} {ms : Marks} {n : List UInt8} (h : isName n = true) : (outW B ms n).length = B.length + sizW ms n := by
  have h1 := nat_lt (splN_at h ms)
  unfold outW sizW
  rw [List.length_append, List.length_append, List.length_take]
  omega
theorem mark_lt {b : Nat} {n r : List UInt8} {qs : List Nat} {q e : Nat} (h : plc (mkM b n qs) r = some q) (hq : ∀ x ∈ qs, x < e) : q < b + e := by
  have := plc_mem h
  simp only [mkM, List.mem_map, Prod.mk.injEq] at this
  obtain ⟨a, ha, _, rfl⟩ := this
  have := hq a ha
  omega
theorem fine_name {B : List UInt8} {ms : Marks} (h : Fine B ms) (n : List UInt8) : Fine (namB B ms n) (namM B ms n) := by
  cases hn : isName n with
  | false => obtain ⟨_, h2, h3⟩ := nam_no (B := B) (ms := ms) hn; rw [h2, h3]; exact h
  | true =>
    by_cases hf : B.length + sizW ms n ≤ 4096
    · obtain ⟨_, h2, h3⟩ := nam_yes hn hf
      rw [h2, h3]
      have hl := outW_len (B := B) (ms := ms) hn
      have hs : (splN ms n).1 ≤ sizW ms n := by unfold sizW; omega
      refine ⟨by omega, ?_, fun r q hq => ?_⟩
      · have := sts_len n.length n 0 (splN ms n).1
        have := h.2.1
        unfold marW newM mkM
        rw [List.length_append, List.length_map]
        omega
      · unfold marW newM at hq
        rw [plc_app] at hq
        cases hp : plc ms r with
        | some q' =>
          rw [hp] at hq
          have : q' = q := by simpa using hq
          subst this
          have := h.2.2 r q' hp
          omega
        | none =>
          rw [hp] at hq
          have := mark_lt (e := (splN ms n).1) (by simpa using hq) (fun x hx => (splN_miss hn ms x hx).2.1)
          omega
    · obtain ⟨_, h2, h3⟩ := nam_long hn hf
      rw [h2, h3]; exact h

theorem left_trans {g : Nat} {v m v1 m1 : Value} {w a b : World} {B : List UInt8} {ms : Marks} (ht : Turn (own g v m) w a) (ho : ∀ k, own g v1 m1 k → own g v m k ∨ w.heap.size ≤ k) (h : Left g v1 m1 a b B ms) : Left g v m w b B ms := by
  obtain ⟨v2, m2, h1, h2, h3⟩ := h
  have hsz := ht.size
  refine ⟨v2, m2, h1, ht.trans h2 ho, fun k hk => ?_⟩
  rcases h3 k hk with h | h
  · exact ho k h
  · exact .inr (by omega)

theorem may_yes (s : ByteArray) (w : World) (h : isName s.data.toList = true) : Calls Try.prog 55 #[.string s] w fun e w' => e = .returned (.bool true) ∧ w' = w := may_as s true w (max_of (by have := name_size h; omega)) h

set_option maxRecDepth 20000 in
set_option maxHeartbeats 1000000 in
theorem wname_yes (g : Nat) (v m : Value) (B : List UInt8) (ms : Marks) (s : ByteArray) (w : World) (hf : Fine B ms) (hn : isName s.data.toList = true) (h : CW w g v m B ms) (hfit : B.length + sizW ms s.data.toList ≤ 4096) :
    Calls Try.prog 59 #[.pointer (some ⟨g, 0, none⟩), .string s] w fun e w' => e = .returned (.int .i64 0) ∧ Left g v m w w' (outW B ms s.data.toList) (marW B ms s.data.toList) := by
  have hs := name_size hn
  have hl := data_len s
  obtain ⟨x, cap, hv⟩ := h.shape
  obtain ⟨N, hN⟩ : ∃ N, N = B.length := ⟨_, rfl⟩
  rw [← hN] at hv
  subst hv
  have HW : Hid (CW w g (.slice x N cap) m B ms) := h
  have HNM : Hid (isName s.data.toList = true) := hn
  have HN : Hid (N = B.length) := hN
  have hspl := split_any g _ m B ms s w hn (fun r q hq => by have := hf.2.2 r q hq; have := hf.1; omega) h
  have hat := nat_lt (splN_at hn ms)
  obtain ⟨E, hE⟩ : ∃ E, E = (splN ms s.data.toList).1 := ⟨_, rfl⟩
  obtain ⟨T, hT⟩ : ∃ T : ByteArray, T = ⟨(splN ms s.data.toList).2.toArray⟩ := ⟨_, rfl⟩
  have hTs : T.size = (splN ms s.data.toList).2.length := by rw [hT]; exact toArr_size _
  have HTL : Hid (T.data.toList = (splN ms s.data.toList).2) := by unfold Hid; rw [hT]
  have HEL : Hid (E = (splN ms s.data.toList).1) := hE
  have hsz : sizW ms s.data.toList = E + T.size := by unfold sizW; rw [hE, hTs]
  unfold spV at hspl
  rw [← hE, ← hT] at hspl
  have HSP : Hid (Calls Try.prog 67 #[.pointer (some ⟨g, 0, none⟩), .string s] w fun e w' => e = .returned (.tuple #[.int .i64 (E : Int), .string T]) ∧ Below w.heap.size w w') := hspl
  rw [hsz, ← hN] at hfit
  have hEs : E ≤ s.size := by omega
  have HKR : Hid (∀ u, CW u g (.slice x N cap) m B ms → Calls Try.prog 68 #[.pointer (some ⟨g, 0, none⟩), .string s, .int .i64 (E : Int)] u fun r w' => r = .returned (.tuple #[]) ∧ KLeft g (.slice x N cap) m u w' B (marW B ms s.data.toList)) := fun u hu => by
    have := keepRests_any g N x cap m B ms s E u hN (by omega) (by have := hf.2.1; omega) hs hEs (fun q hq => by rw [hE] at hq; have := splN_miss hn ms q hq; exact ⟨this.1, this.2.2.1⟩) hu
    unfold marW
    rw [hE] at this ⊢
    exact this
  have HOUT : Hid (outW B ms s.data.toList = B ++ s.data.toList.take E ++ T.data.toList) := by unfold Hid outW; rw [HTL.out, ← hE, List.append_assoc]
  obtain ⟨M, hM⟩ : ∃ M, M = marW B ms s.data.toList := ⟨_, rfl⟩
  rw [← hM] at HKR ⊢
  have hTb : T.size ≤ 4096 := by omega
  have hcut := cut_to s E E rfl hEs
  have hxs : (s.extract 0 E).size = E := by simp; omega
  have hxl : (s.extract 0 E).data.toList = s.data.toList.take E := ext_to s E
  have hfit' : decide ((4096 : Int) - (N : Int) < (E : Int) + (T.size : Int)) = false := by simp; omega
  clear h hn hspl hE hT hTs hN hM hat hsz hf
  go_enter Try.func59, Try.ntmps59
  go_wp2_with (first
    | (go_at_call 55; go_must (refine (may_yes s _ HNM.out).mono ?_); rintro e w' ⟨rfl, hw⟩; obtain rfl := hw.symm)
    | (go_at_call 67; go_must (refine HSP.out.mono ?_); rintro e w1 ⟨rfl, b1⟩; have HW1 : Hid (CW w1 g (.slice x N cap) m B ms) := HW.out.below b1; have HT1 : Hid (Turn (own g (.slice x N cap) m) w w1) := Turn.of_below b1; clear b1)
    | (go_at_call 58; go_must (refine (room_any g N cap x _ (by omega) HW1.out.c0).mono ?_); rintro e w' ⟨rfl, hw⟩; obtain rfl := hw.symm)
    | (go_at_call 68; go_must (refine (HKR.out _ HW1.out).mono ?_); rintro e w2 ⟨rfl, hk⟩; obtain ⟨m2, cw2, t2, o2⟩ := hk; have HW2 : Hid (CW w2 g (.slice x N cap) m2 B M) := cw2; have HT2 : Hid (Turn (own g (.slice x N cap) m) w w2) := HT1.out.trans t2 (fun i hi => .inl hi); have HO2 : Hid (∀ k, own g (.slice x N cap) m2 k → own g (.slice x N cap) m k ∨ w.heap.size ≤ k) := (fun k hk => (o2 k hk).imp id (fun e => Nat.le_trans HT1.out.size e)); have c2 := cw2.c0; have f2 := cw2.blk.frozen 0; clear cw2 t2 o2 HW1 HT1))
  have HR2 : Hid (w2.ownsRow 0 5 1 (.slice x N cap) N (B.map bv)) := by
    unfold Hid
    have := HW2.out.row
    rw [← HN.out] at this
    exact this
  go_region_law ((refine step_appB _ (by rfl) (.tmp 33) (.tmp 36) (by rfl) (.slice x N cap) N (B.map bv) (by rfl) HR2.out.drew (s.extract 0 E) (by rfl) (by omega) ?_; intro v3 w3 own3 grow3 at3; rw [hxs, str_list, hxl] at own3; obtain ⟨y3, k3, rfl⟩ := row_shape own3; have c3 : w3.cell? ⟨g, 0, none⟩ = some (.slice x N cap) := ((HW2.out.drewn ⟨1, rfl⟩).blk.grown grow3 (HW2.out.drewn ⟨1, rfl⟩).sep).cell 0; have f3 : w3.frozen? ⟨g, 0, none⟩ = false := ((HW2.out.drewn ⟨1, rfl⟩).blk.grown grow3 (HW2.out.drewn ⟨1, rfl⟩).sep).frozen 0))
  obtain ⟨cw3, t3, o3⟩ := (HW2.out.drewn (w' := w2.drewN 1) ⟨1, rfl⟩).stored (C := s.data.toList.take E) (by rw [List.map_append]; exact own3) grow3 at3
  have HT3 : Hid (Turn (own g (.slice x N cap) m) w (w3.setCell ⟨g, 0, none⟩ (.slice y3 (N + E) k3))) := HT2.out.trans ((Turn.of_below (S := own g (.slice x N cap) m2) (below_drew ⟨1, rfl⟩)).trans t3 (fun i hi => .inl hi)) HO2.out
  have HO3 : Hid (∀ k, own g (.slice y3 (N + E) k3) m2 k → own g (.slice x N cap) m k ∨ w.heap.size ≤ k) := fun k hk => by
    rcases o3 k hk with h | h
    · exact HO2.out k h
    · have e : (w2.drewN 1).heap.size = w2.heap.size := rfl
      have := HT2.out.size
      exact .inr (by omega)
  have c4 := cw3.c0
  have f4 := cw3.blk.frozen 0
  have HW3 : Hid (CW (w3.setCell ⟨g, 0, none⟩ (.slice y3 (N + E) k3)) g (.slice y3 (N + E) k3) m2 (B ++ s.data.toList.take E) M) := cw3
  have HR3 : Hid ((w3.setCell ⟨g, 0, none⟩ (.slice y3 (N + E) k3)).ownsRow 0 5 1 (.slice y3 (N + E) k3) (N + E) ((B ++ s.data.toList.take E).map bv)) := by
    unfold Hid
    have h1 := cw3.row
    have h2 : (B ++ s.data.toList.take E).length = N + E := by rw [List.length_append, List.length_take, HN.out]; omega
    rw [h2] at h1
    exact h1
  clear cw3 t3 o3 own3 grow3 at3 c3 f3 c2 f2
  revert HT3 c4 f4 HW3 HR3
  generalize w3.setCell ⟨g, 0, none⟩ (.slice y3 (N + E) k3) = W3
  intro HT3 c4 f4 HW3 HR3
  go_wp2_with (at_builtin; refine wpList_appB _ rfl (.tmp 44) (.tmp 45) rfl (.slice y3 (N + E) k3) (N + E) _ rfl HR3.out T rfl (by omega) ?_; intro v5 w5 own5 grow5 at5; obtain ⟨y5, k5, rfl⟩ := row_shape own5; have c5 : w5.cell? ⟨g, 0, none⟩ = some (.slice y3 (N + E) k3) := (HW3.out.blk.grown grow5 HW3.out.sep).cell 0; have f5 : w5.frozen? ⟨g, 0, none⟩ = false := (HW3.out.blk.grown grow5 HW3.out.sep).frozen 0; have HL : Hid (Left g (.slice x N cap) m w (w5.setCell ⟨g, 0, none⟩ (.slice y5 (N + E + T.size) k5)) (B ++ s.data.toList.take E ++ T.data.toList) M) := left_trans HT3.out HO3.out (HW3.out.stored2 own5 grow5 at5); clear own5 grow5 at5)
  go_ret
  rw [HOUT.out]
  exact ⟨rfl, HL.out⟩

theorem wname_long (g : Nat) (v m : Value) (B : List UInt8) (ms : Marks) (s : ByteArray) (w : World) (hf : Fine B ms) (hn : isName s.data.toList = true) (h : CW w g v m B ms) (hfit : ¬ B.length + sizW ms s.data.toList ≤ 4096) :
    Calls Try.prog 59 #[.pointer (some ⟨g, 0, none⟩), .string s] w fun e w' => e = .returned (.int .i64 501) ∧ Left g v m w w' B ms := by
  have hs := name_size hn
  have hl := data_len s
  obtain ⟨x, cap, hv⟩ := h.shape
  obtain ⟨N, hN⟩ : ∃ N, N = B.length := ⟨_, rfl⟩
  rw [← hN] at hv
  subst hv
  have HW : Hid (CW w g (.slice x N cap) m B ms) := h
  have HNM : Hid (isName s.data.toList = true) := hn
  have hspl := split_any g _ m B ms s w hn (fun r q hq => by have := hf.2.2 r q hq; have := hf.1; omega) h
  have hat := nat_lt (splN_at hn ms)
  have hsz1 := splN_size hn ms
  obtain ⟨E, hE⟩ : ∃ E, E = (splN ms s.data.toList).1 := ⟨_, rfl⟩
  obtain ⟨T, hT⟩ : ∃ T : ByteArray, T = ⟨(splN ms s.data.toList).2.toArray⟩ := ⟨_, rfl⟩
  have hTs : T.size = (splN ms s.data.toList).2.length := by rw [hT]; exact toArr_size _
  have hsz : sizW ms s.data.toList = E + T.size := by unfold sizW; rw [hE, hTs]
  unfold spV at hspl
  rw [← hE, ← hT] at hspl
  have HSP : Hid (Calls Try.prog 67 #[.pointer (some ⟨g, 0, none⟩), .string s] w fun e w' => e = .returned (.tuple #[.int .i64 (E : Int), .string T]) ∧ Below w.heap.size w w') := hspl
  rw [hsz, ← hN] at hfit
  rw [hsz] at hsz1
  have hB := hf.1
  rw [← hN] at hB
  have hfit' : (4096 : Int) - (N : Int) < (E : Int) + (T.size : Int) := by omega
  have hEb : E ≤ 255 := by omega
  have hTb : T.size ≤ 255 := by omega
  clear h hn hspl hE hT hTs hN hat hsz hf hsz1
  go_enter Try.func59, Try.ntmps59
  go_wp2_with (first
    | (go_at_call 55; go_must (refine (may_yes s _ HNM.out).mono ?_); rintro e w' ⟨rfl, hw⟩; obtain rfl := hw.symm)
    | (go_at_call 67; go_must (refine HSP.out.mono ?_); rintro e w1 ⟨rfl, b1⟩; have HW1 : Hid (CW w1 g (.slice x N cap) m B ms) := HW.out.below b1; have HT1 : Hid (Turn (own g (.slice x N cap) m) w w1) := Turn.of_below b1; clear b1)
    | (go_at_call 58; go_must (refine (room_any g N cap x _ hB HW1.out.c0).mono ?_); rintro e w' ⟨rfl, hw⟩; obtain rfl := hw.symm))
  go_ret
  exact ⟨rfl, _, _, HW1.out, HT1.out, fun k hk => .inl hk⟩

theorem wname_no (g : Nat) (v m : Value) (B : List UInt8) (ms : Marks) (s : ByteArray) (w : World) (hs : s.size ≤ maxLen) (hn : isName s.data.toList = false) (h : CW w g v m B ms) :
    Calls Try.prog 59 #[.pointer (some ⟨g, 0, none⟩), .string s] w fun e w' => e = .returned (.int .i64 500) ∧ Left g v m w w' B ms := by
  go_enter Try.func59, Try.ntmps59
  go_wp2_with (go_at_call 55; go_must (refine (may_as s false _ hs hn).mono ?_); rintro e w' ⟨rfl, hw⟩; obtain rfl := hw.symm)
  go_ret
  exact ⟨rfl, left_same h⟩

/-- What Name of a Writer of package comp gives, for every argument. -/
theorem wname_any (g : Nat) (v m : Value) (B : List UInt8) (ms : Marks) (s : ByteArray) (w : World) (hf : Fine B ms) (hs : s.size ≤ maxLen) (h : CW w g v m B ms) :
    Calls Try.prog 59 #[.pointer (some ⟨g, 0, none⟩), .string s] w fun e w' => e = .returned (.int .i64 (namE B ms s.data.toList)) ∧ Left g v m w w' (namB B ms s.data.toList) (namM B ms s.data.toList) := by
  cases hn : isName s.data.toList with
  | false => obtain ⟨h1, h2, h3⟩ := nam_no (B := B) (ms := ms) hn; rw [h1, h2, h3]; exact wname_no g v m B ms s w hs hn h
  | true =>
    by_cases hfit : B.length + sizW ms s.data.toList ≤ 4096
    · obtain ⟨h1, h2, h3⟩ := nam_yes hn hfit; rw [h1, h2, h3]; exact wname_yes g v m B ms s w hf hn h hfit
    · obtain ⟨h1, h2, h3⟩ := nam_long hn hfit; rw [h1, h2, h3]; exact wname_long g v m B ms s w hf hn h hfit

end Go.Proofs.Ytdogjbblnjjaaab
