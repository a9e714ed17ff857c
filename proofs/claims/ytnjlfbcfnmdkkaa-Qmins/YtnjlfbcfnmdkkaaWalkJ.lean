/- What Last and Above of package rel give, for every argument. -/
import Derived.Test.YtnjlfbcfnmdkkaaWalkI
import Derived.Test.YtnjlfbcfnmdkkaaPlainJ
namespace Go.Proofs.Ytnjlfbcfnmdkkaa
open Go.RowKit
open Pl

theorem fill_at {w : World} {g : Nat} {C : Array Value} {ls : List (List UInt8)} (h : w.heap[g]? = some (.cells C 61 (0, 0))) (hF : Fill ls ls.length C) : PlAt w g ls :=
  ⟨by rw [cell_of_row w g 128 C 61 (0, 0) h]; exact hF.2.1, fun i hi => by rw [cell_of_row w g i C 61 (0, 0) h]; exact hF.2.2.1 i hi⟩

theorem Fill.all {ls : List (List UInt8)} {c : Nat} {C : Array Value} (h : Fill ls c C) : C.all (·.oneCell') = true := h.2.2.2

theorem few {s : ByteArray} (h : isName s.data.toList = true) : (labs s.data.toList).length ≤ 127 := by
  obtain ⟨e1, e2, _, e4⟩ := enc_of h
  have := labs_few e2
  rw [← e1] at this
  omega

theorem pos_in {s : ByteArray} (h : isName s.data.toList = true) (i : Nat) : pos (labs s.data.toList) i < s.size := by
  obtain ⟨e1, _, _, _⟩ := enc_of h
  have := pos_lt (labs s.data.toList) i
  rw [← e1, data_len] at this
  exact this

theorem last_ext {s : ByteArray} (h : isName s.data.toList = true) (k : Nat) : (s.extract (pos (labs s.data.toList) ((labs s.data.toList).length - k)) s.size).data.toList = lastN s.data.toList k := by
  rw [ext_from, last_drop h]

theorem zero47 : ∃ Z : Array Value, (∀ w, (zeroValue 61).run Try.prog w = .ok (.agg Z) w) ∧ Z.size = 129 := ⟨Z47, (zero_of_info info47).1, (fill_start []).1⟩

theorem last_no {l : List UInt8} {k : Int} (h : isName l = false ∨ k < 0 ∨ ((labs l).length : Int) < k) : lastR l k = none := by
  unfold lastR
  rw [if_neg]
  rintro ⟨h1, h2, h3⟩
  rcases h with h | h | h
  · rw [h] at h1; simp at h1
  · omega
  · omega
theorem last_yes {l : List UInt8} {k : Nat} (h : isName l = true) (hk : k ≤ (labs l).length) : lastR l (k : Int) = some (lastN l k) := by
  unfold lastR
  rw [if_pos ⟨h, by omega, by omega⟩]; rfl

set_option maxRecDepth 20000 in
set_option maxHeartbeats 1000000 in
theorem last_any (s : ByteArray) (k : Int) (w : World) (hs : s.size ≤ maxLen) :
    Calls Try.prog 33 #[.string s, .int .i64 k] w fun e w' => e = .returned (optV (lastR s.data.toList k)) ∧ Below w.heap.size w w' := by
  cases h : isName s.data.toList with
  | false =>
    have HR : Hid (lastR s.data.toList k = none) := last_no (.inl h)
    go_enter Try.func33, Try.ntmps33
    go_wp2_with (go_at_call 28; refine (may_as _ false _ hs h).mono ?_; rintro e w' ⟨rfl, hw⟩; obtain rfl := hw.symm)
    go_ret2
    exact ⟨ret_none HR.out, Below.refl _ _⟩
  | true =>
    obtain ⟨Z, hz, hZs⟩ := zero47
    obtain ⟨n, hn⟩ : ∃ n, n = (labs s.data.toList).length := ⟨_, rfl⟩
    have HN : Hid (n = (labs s.data.toList).length) := hn
    have h127 : n ≤ 127 := by rw [hn]; exact few h
    have h255 := name_size h
    by_cases hk0 : k < 0
    · have HR : Hid (lastR s.data.toList k = none) := last_no (.inr (.inl hk0))
      clear hn
      go_enter Try.func33, Try.ntmps33
      go_wp2_with (first
        | (go_at_call 28; refine (may_as _ true _ hs h).mono ?_; rintro e w' ⟨rfl, hw⟩; obtain rfl := hw.symm)
        | (go_at_call 29; refine (gather_any _ _ h).mono ?_; rintro e w1 ⟨C, rfl, hb1, hF⟩; have HF : Hid (Fill (labs s.data.toList) (labs s.data.toList).length C) := hF; clear hF)
        | (refine wpList_storePl _ rfl (.tmp 6) (.tmp 11) rfl w1.heap.size Z C rfl rfl (heap_alloc_last _ _) hZs HF.out.1 HF.out.all ?_; intro w3 h1 h2 h3))
      go_ret2
      exact ⟨ret_none HR.out, (lay hb1 _).trans ⟨h2.os, h2.tape, h2.output, h2.size, fun i hi => h2.block i (by have := hb1.size; simp; omega) (by intro e; have := Option.some.inj e; have := hb1.size; omega)⟩⟩
    · by_cases hkn : (n : Int) < k
      · have HR : Hid (lastR s.data.toList k = none) := last_no (.inr (.inr (by rw [← hn]; exact hkn)))
        have hk0' : decide (k < 0) = false := by simpa using hk0
        clear hn
        go_enter Try.func33, Try.ntmps33
        go_wp2_with (first
          | (go_at_call 28; refine (may_as _ true _ hs h).mono ?_; rintro e w' ⟨rfl, hw⟩; obtain rfl := hw.symm)
          | (go_at_call 29; refine (gather_any _ _ h).mono ?_; rintro e w1 ⟨C, rfl, hb1, hF⟩; have HF : Hid (Fill (labs s.data.toList) (labs s.data.toList).length C) := hF; clear hF)
          | (refine wpList_storePl _ rfl (.tmp 6) (.tmp 11) rfl w1.heap.size Z C rfl rfl (heap_alloc_last _ _) hZs HF.out.1 HF.out.all ?_; intro w3 h1 h2 h3; have hc := (fill_at h1 HF.out).1; rw [← HN.out] at hc; have HH : Hid (w3.heap[w1.heap.size]? = some (.cells C 61 (0, 0))) := h1; clear h1))
        go_ret2
        exact ⟨ret_none HR.out, (lay hb1 _).trans ⟨h2.os, h2.tape, h2.output, h2.size, fun i hi => h2.block i (by have := hb1.size; simp; omega) (by intro e; have := Option.some.inj e; have := hb1.size; omega)⟩⟩
      · obtain ⟨K, rfl⟩ : ∃ K : Nat, k = (K : Int) := ⟨k.toNat, by omega⟩
        have hKn : K ≤ n := by omega
        have hk0' : decide ((K : Int) < 0) = false := by simp
        have hkn' : decide ((n : Int) < (K : Int)) = false := by simp; omega
        obtain ⟨P, hP⟩ : ∃ P, P = pos (labs s.data.toList) (n - K) := ⟨_, rfl⟩
        have hPs : P ≤ s.size := by have := pos_in h (n - K); omega
        have HP : Hid (P = pos (labs s.data.toList) (n - K)) := hP
        have HR : Hid (lastR s.data.toList (K : Int) = some (s.extract P s.size).data.toList) := by
          unfold Hid
          rw [last_yes h (by omega), hP, hn, last_ext h]
        have hts : (s.extract P s.size).size ≤ 1000000 := by simp; omega
        clear hn hP hk0 hkn
        go_enter Try.func33, Try.ntmps33
        go_wp2_with (first
          | (go_at_call 28; refine (may_as _ true _ hs h).mono ?_; rintro e w' ⟨rfl, hw⟩; obtain rfl := hw.symm)
          | (go_at_call 29; refine (gather_any _ _ h).mono ?_; rintro e w1 ⟨C, rfl, hb1, hF⟩; have HF : Hid (Fill (labs s.data.toList) (labs s.data.toList).length C) := hF; clear hF)
          | (refine wpList_storePl _ rfl (.tmp 6) (.tmp 11) rfl w1.heap.size Z C rfl rfl (heap_alloc_last _ _) hZs HF.out.1 HF.out.all ?_; intro w3 h1 h2 h3; have hc := (fill_at h1 HF.out).1; rw [← HN.out] at hc; have HH : Hid (w3.heap[w1.heap.size]? = some (.cells C 61 (0, 0))) := h1; clear h1)
          | (go_at_call 31; go_must (refine (plLast_any s (s.extract P s.size) _ w1.heap.size n K P hKn h127 hc (by rw [HP.out]; exact (fill_at HH.out HF.out).2 _ (by have := HN.out; omega)) hPs rfl).mono ?_); rintro e w4 ⟨rfl, hd4⟩)
          | (go_at_call 39; go_must (refine (clone_any _ _ hts).mono ?_); rintro e w5 ⟨rfl, hb5⟩))
        go_ret2
        have hb3 : Below w.heap.size w w3 := (lay hb1 _).trans ⟨h2.os, h2.tape, h2.output, h2.size, fun i hi => h2.block i (by have := hb1.size; simp; omega) (by intro e; have := Option.some.inj e; have := hb1.size; omega)⟩
        exact ⟨ret_some HR.out, next (next hb3 (below_drew hd4)) hb5⟩

end Go.Proofs.Ytnjlfbcfnmdkkaa
