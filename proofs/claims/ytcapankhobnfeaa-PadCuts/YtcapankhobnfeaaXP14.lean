/- What Answer gives. -/
import Derived.Test.YtcapankhobnfeaaXP12
import Derived.Test.YtcapankhobnfeaaXP13
import Derived.Test.YtcapankhobnfeaaXP9
namespace Go.Proofs.Ytcapankhobnfeaa
open Go.RowKit
open Pl

theorem answer_any (m : Ms) (edns : Bool) (most : Int) (v0 v1 v2 v3 : Value) (T : ByteArray) (E : Int) (w : World) (h0 : QRow w v0 m.qs) (h1 : RRow w v1 m.an) (h2 : RRow w v2 m.ns) (h3 : RRow w v3 m.ar) (hT : ansT m edns most = T) (hE : ansE m edns most = E) :
    Calls Try.prog 12 #[.agg (msgC m.h v0 v1 v2 v3), .bool edns, .int .i64 most] w fun e w' => e = .returned (.tuple #[.string T, .int .i64 E]) ∧ Below w.heap.size w w' := by
  by_cases hr : refE m edns = 0
  · cases edns with
    | false => exact answerP m most v0 v1 v2 v3 T E w h0 h1 h2 h3 hr hT hE
    | true => exact answerE m most v0 v1 v2 v3 T E w h0 h1 h2 h3 hr hT hE
  · have e1 : T = ⟨#[]⟩ := by rw [← hT]; unfold ansT; rw [if_neg hr]
    have e2 : refE m edns = E := by rw [← hE]; unfold ansE; rw [if_neg hr]
    subst e1
    exact answer_no m edns most v0 v1 v2 v3 E w h0 h1 h2 h3 e2 (by rw [← e2]; exact hr)

end Go.Proofs.Ytcapankhobnfeaa

/- awake of the statements over package pad. -/
namespace Go.Proofs.Ytcapankhobnfeaa
open Go.RowKit
open Pl

/-- What awake asks for. -/
def aqS : ByteArray := queT 258 ⟨#[1, 65, 0]⟩ 1
theorem aw10_1 : aqS.size = 128 ∧ aqS.extract 0 2 = ⟨#[1, 2]⟩ ∧ queE 258 ⟨#[1, 65, 0]⟩ 1 = 0 := by decide +kernel
theorem aw10_2 : aqS[13]? = some 97 := by decide +kernel
theorem aw10_3 : queE (-1) ⟨#[0]⟩ 1 = 1000 := by decide +kernel
theorem aw10_4 : (ansT msZ true 1232).size = 468 ∧ ansE msZ true 1232 = 0 := by decide +kernel
theorem aw10_5 : ansT msZ false 512 = zerosB 12 ∧ ansE msZ false 512 = 0 := by decide +kernel
theorem aw10_6 : ansE msZ false 5 = 1001 := by decide +kernel
theorem aw10_7 : roomI 5 10 = 1 := by decide

set_option maxRecDepth 20000 in
set_option maxHeartbeats 4000000 in
theorem awake_any (w : World) : Calls Try.prog 18 #[] w fun e w' => e = .returned (.bool true) ∧ Below w.heap.size w w' := by
  have hb : Below w.heap.size w w := Below.refl _ _
  obtain ⟨Zc, hmk, hcz⟩ := madeN 12 (by decide)
  rw [show ((12 : Nat) : Int) = 12 from rfl] at hmk
  obtain ⟨ZZ, hZZ⟩ : ∃ Z, Z = zerosB 12 := ⟨_, rfl⟩
  have h13 : 13 < aqS.size := by rw [aw10_1.1]; decide
  have Q1 := fun u => query_any 258 ⟨#[1, 65, 0]⟩ 1 aqS 0 u (small100 (by decide)) rfl aw10_1.2.2
  have Q2 := fun u => query_any (-1) ⟨#[0]⟩ 1 _ 1000 u (small100 (by decide)) rfl aw10_3
  have A1 := fun u => answer_any msZ true 1232 (.slice none 0 0) (.slice none 0 0) (.slice none 0 0) (.slice none 0 0) _ 0 u (QRow.nil u) (RRow.nil u) (RRow.nil u) (RRow.nil u) rfl aw10_4.2
  have A2 := fun u => answer_any msZ false 512 (.slice none 0 0) (.slice none 0 0) (.slice none 0 0) (.slice none 0 0) (zerosB 12) 0 u (QRow.nil u) (RRow.nil u) (RRow.nil u) (RRow.nil u) aw10_5.1 aw10_5.2
  have A3 := fun u => answer_any msZ false 5 (.slice none 0 0) (.slice none 0 0) (.slice none 0 0) (.slice none 0 0) _ 1001 u (QRow.nil u) (RRow.nil u) (RRow.nil u) (RRow.nil u) rfl aw10_6
  have RM := fun u => pdRoom_any 5 10 u (by decide) (by decide)
  rw [aw10_7] at RM
  have c2 := fun u => cut_to aqS 2 2 rfl (by rw [aw10_1.1]; decide) u
  have i13 := fun u => idx aqS 13 13 rfl h13 u
  have e13 : (aqS[13].toNat : Int) = 97 := by
    have := aw10_2
    rw [getElem?_pos aqS 13 h13] at this
    simp only [Option.some.injEq] at this
    rw [this]
    rfl
  simp only [aw10_1.2.1] at c2
  simp only [e13] at i13
  have z1 := aw10_1.1
  have z4 := aw10_4.1
  obtain ⟨S, hS⟩ : ∃ S, S = aqS := ⟨_, rfl⟩
  simp only [← hS] at Q1 c2 i13 z1
  obtain ⟨S4, hS4⟩ : ∃ S4, S4 = ansT msZ true 1232 := ⟨_, rfl⟩
  simp only [← hS4] at A1 z4
  obtain ⟨S2, hS2⟩ : ∃ S2, S2 = queT (-1) ⟨#[0]⟩ 1 := ⟨_, rfl⟩
  simp only [← hS2] at Q2
  obtain ⟨S3, hS3⟩ : ∃ S3, S3 = ansT msZ false 5 := ⟨_, rfl⟩
  simp only [← hS3] at A3
  simp only [← hZZ] at hcz A2
  have zi1 : (S.size : Int) = 128 := by omega
  have zi4 : (S4.size : Int) = 468 := by omega
  unfold msZ hdZ msgC at A1 A2 A3
  simp only at A1 A2 A3
  clear hS hS4 hS2 hS3 hZZ h13 e13 z1 z4
  go_enter Try.func18, Try.ntmps18
  go_wp2_with (first
    | (go_at_call 9; have _t := Q1; go_must (refine (Q1 _).mono ?_); rintro e w1 ⟨rfl, b1⟩; replace hb := next hb b1; clear b1 Q1 _t)
    | (go_at_call 9; go_must (refine (Q2 _).mono ?_); rintro e w2 ⟨rfl, b1⟩; replace hb := next hb b1; clear b1)
    | (go_at_call 12; have _t := A1; go_must (refine (A1 _).mono ?_); rintro e w3 ⟨rfl, b1⟩; replace hb := next hb b1; clear b1 A1 _t)
    | (go_at_call 12; have _t := A2; go_must (refine (A2 _).mono ?_); rintro e w4 ⟨rfl, b1⟩; replace hb := next hb b1; clear b1 A2 _t)
    | (go_at_call 12; go_must (refine (A3 _).mono ?_); rintro e w5 ⟨rfl, b1⟩; replace hb := next hb b1; clear b1)
    | (go_at_call 16; go_must (refine (RM _).mono ?_); rintro e w' ⟨rfl, hw⟩; obtain rfl := hw.symm)
    | (go_at_call 14; refine (num_any _ _).mono ?_; rintro e w' ⟨rfl, hw⟩; obtain rfl := hw.symm))
  go_ret
  exact ⟨ret_bool (by simp), lay hb _⟩

end Go.Proofs.Ytcapankhobnfeaa

/- How long what is padded is, and what a query is, plainly. -/
namespace Go.Proofs.Ytcapankhobnfeaa
open Go.RowKit
open Pl

theorem with_may_of {m : Ms} {os : List On} (h : mayM (withO m os) = true) : mayM m = true := by
  unfold mayM withO at h
  unfold mayM
  simp only [Bool.and_eq_true] at h ⊢
  obtain ⟨hh, ⟨⟨h0, h1⟩, h2⟩, h3⟩ := h
  refine ⟨hh, ⟨⟨h0, h1⟩, h2⟩, ?_⟩
  have f3 := few_iff h3
  rw [List.length_append, List.all_append, Bool.and_eq_true] at f3
  unfold few
  rw [f3.2.1]
  simp
  omega
/-- A message with an OPT behind it. -/
theorem pad_with {m : Ms} {os : List On} (h : pE m = 0) (ha : m.ar.length < 64) (ho : mayOt (ot os) = true) :
    ((pT m).size + 11 + (osB os).length ≤ 4096 → pE (withO m os) = 0 ∧ (pT (withO m os)).size = (pT m).size + 11 + (osB os).length) ∧ (¬ (pT m).size + 11 + (osB os).length ≤ 4096 → pE (withO m os) = 701) := by
  obtain ⟨hm, ⟨st, hp, _, hsz⟩, _⟩ := p_yes h
  have hr : putO (ot os) = ⟨rootB, 41, 1232, 0, ⟨(osB os).toArray⟩⟩ := by unfold putO; rw [if_pos ho]; rfl
  have hos : (osB os).length ≤ 65535 := by
    unfold mayOt at ho
    rw [Bool.and_eq_true] at ho
    exact (mayOs_iff.1 ho.2).2
  have hmw : mayM (withO m os) = true := with_may hm ha (by rw [hr]; exact opt_may (by rw [bytes_size]; exact hos))
  obtain ⟨g1, g2⟩ := with_put (r := putO (ot os)) hm hp (by rw [hr])
  have hd : (putO (ot os)).d.size = (osB os).length := by rw [hr]; exact bytes_size _
  rw [hd] at g1 g2
  rw [hsz]
  constructor
  · intro hl
    obtain ⟨st', p', l'⟩ := g1 hl
    have := p_of hmw p'
    rw [l'] at this
    exact this
  · intro hl
    exact p_long hmw (g2 hl)
theorem may_ot0 : mayOt (ot []) = true := by decide
/-- A message and its padding. -/
theorem pad_sum {m : Ms} {b : Int} {k : Nat} (h : pE m = 0) (ha : m.ar.length < 64) (hb : 1 ≤ b ∧ b ≤ 1000) (hk : k = (roomI ((pT m).size + 11 : Int) b).toNat) :
    ((pT m).size + 15 + k ≤ 4096 → qE b m = 0 ∧ qT b m = pT (withO m (pdO k)) ∧ (qT b m).size = (pT m).size + 15 + k ∧ pE (withO m (pdO k)) = 0) ∧ (¬ (pT m).size + 15 + k ≤ 4096 → qE b m = 701 ∧ qT b m = ⟨#[]⟩ ∧ pE (withO m (pdO k)) = 701) := by
  have hr := room_lt (s := ((pT m).size + 11 : Int)) hb.1
  have hk1 : k ≤ 1000 := by omega
  obtain ⟨g1, g2⟩ := pad_with (os := pdO k) h ha (may_pd (by omega))
  obtain ⟨g3, g4⟩ := pad_with (os := []) h ha may_ot0
  rw [osB_pd] at g1 g2
  rw [osB_nil, List.length_nil] at g3 g4
  constructor
  · intro hl
    obtain ⟨a1, a2⟩ := g1 (by omega)
    obtain ⟨a3, a4⟩ := g3 (by omega)
    have e : padK b m = k := by unfold padK; rw [a4, hk]; rfl
    refine ⟨?_, ?_, ?_, a1⟩
    · unfold qE; rw [if_pos a3, e]; exact a1
    · unfold qT; rw [if_pos a3, e]
    · unfold qT; rw [if_pos a3, e, a2]; omega
  · intro hl
    have a1 := g2 (by omega)
    by_cases hl2 : (pT m).size + 11 + 0 ≤ 4096
    · obtain ⟨a3, a4⟩ := g3 hl2
      have e : padK b m = k := by unfold padK; rw [a4, hk]; rfl
      refine ⟨?_, ?_, a1⟩
      · unfold qE; rw [if_pos a3, e]; exact a1
      · unfold qT; rw [if_pos a3, e]; exact (p_no (by rw [a1]; decide)).1
    · have a3 := g4 hl2
      refine ⟨?_, ?_, a1⟩
      · unfold qE; rw [if_neg (by rw [a3]; decide)]; exact a3
      · unfold qT; rw [if_neg (by rw [a3]; decide)]
/-- How long it is with it. -/
theorem len128 (n : Nat) : n + 15 + (roomI ((n : Int) + 11) 128).toNat = (n + 15 + 127) / 128 * 128 := by
  rw [room_some (by omega) (by omega)]
  omega
theorem len468 (n : Nat) : n + 15 + (roomI ((n : Int) + 11) 468).toNat = (n + 15 + 467) / 468 * 468 := by
  rw [room_some (by omega) (by omega)]
  omega

theorem fd_name (n : ByteArray) : isName (fdB n).data.toList = isName n.data.toList := by
  unfold fdB
  rw [list_arr]
  cases h : isName n.data.toList with
  | false => rw [foldR_no h]; decide
  | true => rw [foldR_yes h, name_fold, h]
theorem fd_len {n : ByteArray} (h : isName n.data.toList = true) : (fdB n).size = n.size := by
  unfold fdB
  rw [bytes_size, foldR_yes h, fold_len, data_len]
/-- May a query be? -/
def mayQu (id : Int) (n : ByteArray) (t : Int) : Bool := inB 65535 id && isName n.data.toList && (decide (1 ≤ t) && decide (t ≤ 65535))
theorem q_may (id : Int) (n : ByteArray) (t : Int) : mayM (qM id n t) = mayQu id n t := by
  have e1 : mayHd ⟨id, false, 0, false, false, false, false, 0, 0⟩ = inB 65535 id := by
    rw [Bool.eq_iff_iff]
    unfold mayHd
    rw [mayH_iff]
    simp only [fit_iff, inB, decide_eq_true_eq]
    omega
  unfold mayM qM mayQu few mayQ
  simp only [e1, List.all_cons, List.all_nil, List.length_nil, List.length_cons, fd_name, Bool.and_true]
  rw [show inB 65535 (1 : Int) = true from by decide, Bool.and_true]
  simp only [Nat.zero_add, show decide (1 ≤ 64) = true from rfl, show decide (0 ≤ 64) = true from rfl, Bool.true_and, Bool.and_true]
  cases inB 65535 id <;> cases isName n.data.toList <;> rfl
theorem q_put {id : Int} {n : ByteArray} {t : Int} (h : mayQu id n t = true) : pE (qM id n t) = 0 ∧ (pT (qM id n t)).size = n.size + 16 := by
  have hm : mayM (qM id n t) = true := by rw [q_may]; exact h
  unfold mayQu at h
  simp only [Bool.and_eq_true] at h
  have hn := h.1.2
  have h255 := (name_some hn).1
  rw [data_len] at h255
  have hf := fd_name n
  rw [hn] at hf
  have hfl := fd_len hn
  obtain ⟨HB, hHB⟩ : ∃ HB, HB = (headS (qM id n t)).data.toList := ⟨_, rfl⟩
  have hl : HB.length = 12 := by rw [hHB]; exact headS_len _
  obtain ⟨a, b⟩ := nam_fresh (B := HB) hf (by rw [hl, data_len]; omega)
  have hl2 : (HB ++ (fdB n).data.toList).length = 12 + n.size := by rw [List.length_append, hl, data_len, hfl]
  have e0 : stN (HB, []) (fdB n) = some (HB ++ (fdB n).data.toList, namM HB [] (fdB n).data.toList) := by
    unfold stN
    simp only
    rw [a, b, if_pos rfl]
  have e1 : putSt (qM id n t) = some (HB ++ (fdB n).data.toList ++ (qB ⟨fdB n, t, 1⟩).data.toList, namM HB [] (fdB n).data.toList) := by
    rw [put_body, ← hHB]
    show stAll stQ (some (HB, [])) [⟨fdB n, t, 1⟩] = _
    rw [stAll_cons, Option.bind_some]
    have h2 : stQ (HB, []) ⟨fdB n, t, 1⟩ = some (HB ++ (fdB n).data.toList ++ (qB ⟨fdB n, t, 1⟩).data.toList, namM HB [] (fdB n).data.toList) := by
      unfold stQ
      rw [e0, Option.bind_some, stR_as, if_pos (by rw [hl2, show (qB ⟨fdB n, t, 1⟩).size = 4 from rfl]; omega)]
    rw [h2]
    rfl
  have := p_of hm e1
  refine ⟨this.1, ?_⟩
  rw [this.2]
  simp only [List.length_append, hl, data_len, hfl]
  rw [show (qB ⟨fdB n, t, 1⟩).size = 4 from rfl]
  omega
/-- A query that is one. -/
theorem que_yes {id : Int} {n : ByteArray} {t : Int} (h : mayQu id n t = true) :
    queE id n t = 0 ∧ (queT id n t).size = (n.size + 31 + 127) / 128 * 128 ∧ ∃ k, k = (roomI (((n.size + 16 : Nat) : Int) + 11) 128).toNat ∧ k ≤ 127 ∧ queT id n t = pT (withO (qM id n t) (pdO k)) ∧ pE (withO (qM id n t) (pdO k)) = 0 := by
  obtain ⟨h0, hs⟩ := q_put h
  have h255 : n.size ≤ 255 := by
    unfold mayQu at h
    simp only [Bool.and_eq_true] at h
    have := (name_some h.1.2).1
    rwa [data_len] at this
  have hk := len128 (pT (qM id n t)).size
  have hrl := room_lt (s := ((pT (qM id n t)).size + 11 : Int)) (b := 128) (by decide)
  obtain ⟨g1, _⟩ := pad_sum (b := 128) h0 (by simp [qM]) (by decide) rfl
  rw [hk, hs] at g1
  rw [hs] at hrl
  obtain ⟨a1, a2, a3, a4⟩ := g1 (by omega)
  refine ⟨by unfold queE; rw [if_pos a1], ?_, _, rfl, ?_, ?_, a4⟩
  · unfold queT
    rw [if_pos a1, a3]
  · omega
  · unfold queT
    rw [if_pos a1, a2]
theorem que_no {id : Int} {n : ByteArray} {t : Int} (h : mayQu id n t = false) : queE id n t = 1000 ∧ queT id n t = ⟨#[]⟩ := by
  have hm : mayM (qM id n t) = false := by rw [q_may]; exact h
  have hw : mayM (withO (qM id n t) []) = false := by
    rw [Bool.eq_false_iff]
    intro e
    rw [with_may_of e] at hm
    cases hm
  have e1 : pE (withO (qM id n t) []) = 700 := by unfold pE; rw [hw]; rfl
  have e2 : qE 128 (qM id n t) = 700 := by unfold qE; rw [if_neg (by rw [e1]; decide), e1]
  unfold queE queT
  rw [if_neg (by rw [e2]; decide), if_neg (by rw [e2]; decide)]
  exact ⟨rfl, rfl⟩

end Go.Proofs.Ytcapankhobnfeaa
