/- The document's Writer as it lies in memory; what its Raw, All and place give. -/
import Derived.Test.YtcapankhobnfeaaXP4
namespace Go.Proofs.Ytcapankhobnfeaa
open Go.RowKit
open Pl

theorem infoM : (Try.prog.info? 130).map (fun i => (i.zero, i.size, i.bytes)) = some (some (.agg #[.string ⟨#[]⟩, .int .i64 0]), 2, 24) := by kernel_rfl

/-- A rest and its place, as cells. -/
def mkC (ms : Marks) : List Value := ms.flatMap fun m => [.string ⟨m.1.toArray⟩, .int .i64 (m.2 : Int)]
theorem mkC_app (a b : Marks) : mkC (a ++ b) = mkC a ++ mkC b := by simp [mkC]
theorem mkC_len (a : Marks) : (mkC a).length = a.length * 2 := by
  induction a with
  | nil => rfl
  | cons c t ih =>
    have : mkC (c :: t) = [.string ⟨c.1.toArray⟩, .int .i64 (c.2 : Int)] ++ mkC t := by simp [mkC]
    rw [this, List.length_append, ih]; simp; omega
theorem mkC_one (a : Marks) : ∀ u ∈ mkC a, u.oneCell' = true := by
  intro u hu
  simp only [mkC, List.mem_flatMap] at hu
  obtain ⟨m, _, hu⟩ := hu
  simp at hu
  rcases hu with rfl | rfl <;> rfl
theorem mkC_get : ∀ (a : Marks) (k : Nat) (hk : k < a.length), (mkC a)[2 * k]? = some (.string ⟨a[k].1.toArray⟩) ∧ (mkC a)[2 * k + 1]? = some (.int .i64 (a[k].2 : Int)) := by
  intro a
  induction a with
  | nil => intro k hk; simp at hk
  | cons c t ih =>
    intro k hk
    have e : mkC (c :: t) = .string ⟨c.1.toArray⟩ :: .int .i64 (c.2 : Int) :: mkC t := by simp [mkC]
    rw [e]
    cases k with
    | zero => exact ⟨rfl, rfl⟩
    | succ k =>
      have := ih k (by simp at hk; omega)
      rw [show 2 * (k + 1) = (2 * k + 1) + 1 from by omega, show (2 * k + 1) + 1 + 1 = (2 * k + 1 + 1) + 1 from by omega]
      simp only [List.getElem?_cons_succ, List.getElem_cons_succ]
      exact this

/-- A Writer of the document's. -/
def RW (w : World) (h : Nat) (O : ByteArray) (v : Value) (ms : Marks) : Prop :=
  Blk w h #[.string O, v] 100 ∧ w.ownsRow 0 130 2 v ms.length (mkC ms)
def own2 (h : Nat) (v : Value) (k : Nat) : Prop := k = h ∨ v.ownBlock = some k

section
variable {w w' : World} {h : Nat} {O : ByteArray} {v : Value} {ms : Marks}
theorem RW.sep (a : RW w h O v ms) : some h ≠ v.ownBlock := by
  intro e
  rcases a.2.2 with ⟨h1, _⟩ | ⟨g', cap, cur, h1, _, hg, _⟩
  · rw [h1] at e; simp [Value.ownBlock] at e
  · rw [h1] at e
    simp [Value.ownBlock] at e
    subst e
    have := a.1
    unfold Blk at this
    rw [hg] at this
    simp at this
theorem RW.turn {S : Nat → Prop} (a : RW w h O v ms) (ht : Turn S w w') (hs : ∀ k, own2 h v k → ¬ S k) : RW w' h O v ms :=
  ⟨ht.blk a.1 (hs h (.inl rfl)), ht.row a.2 (fun k hk => hs k (.inr hk))⟩
theorem RW.below (a : RW w h O v ms) (hb : Below w.heap.size w w') : RW w' h O v ms := a.turn (S := fun _ => False) (Turn.of_below hb) (fun _ _ => id)
theorem RW.beside (a : RW w h O v ms) (hb : Beside w w') : RW w' h O v ms := by
  refine ⟨?_, hb.row a.2 (by decide) (by decide)⟩
  exact hb h _ _ _ a.1 (by decide) (by decide)
theorem RW.tag (a : RW w h O v ms) {k : Nat} (hk : own2 h v k) : ∃ c t f, w.heap[k]? = some (Obj.cells c t f) ∧ t ≠ 5 ∧ t ≠ 140 := by
  rcases hk with rfl | hk
  · exact ⟨_, _, _, a.1, by decide, by decide⟩
  · rcases a.2.2 with ⟨h3, _⟩ | ⟨g', cap, cur, h3, _, hg, _⟩
    · rw [h3] at hk; simp [Value.ownBlock] at hk
    · rw [h3] at hk
      simp [Value.ownBlock] at hk
      subst hk
      exact ⟨_, _, _, hg, by decide, by decide⟩
theorem RW.new (w : World) : RW (w.alloc (.cells #[.string ⟨#[]⟩, .slice none 0 0] 100)) w.heap.size ⟨#[]⟩ (.slice none 0 0) [] := ⟨Blk.new w _ _, World.ownsRow_nil _ _ _ _⟩
/-- What a call leaves of the document's Writer. -/
def RLeft (h : Nat) (v : Value) (w w' : World) (B : List UInt8) (ms : Marks) : Prop :=
  ∃ O v', RW w' h O v' ms ∧ O.data.toList = B ∧ Turn (own2 h v) w w' ∧ ∀ k, own2 h v' k → own2 h v k ∨ w.heap.size ≤ k
end

theorem rAll_any (h : Nat) (O : ByteArray) (v : Value) (ms : Marks) (w : World) (a : RW w h O v ms) :
    Calls Try.prog 55 #[.pointer (some ⟨h, 0, none⟩)] w fun e w' => e = .returned (.string O) ∧ w' = w := by
  have c0 : w.cell? ⟨h, 0, none⟩ = some (.string O) := a.1.cell 0
  clear a
  go_enter Try.func55, Try.ntmps55
  go_wp2
  go_ret
  exact ⟨rfl, rfl⟩

/-- The document's Writer, its bytes stored anew. -/
theorem RW.stored {w : World} {h : Nat} {O O' : ByteArray} {v : Value} {ms : Marks} (a : RW w h O v ms) : RW (w.setCell ⟨h, 0, none⟩ (.string O')) h O' v ms ∧ Turn (own2 h v) w (w.setCell ⟨h, 0, none⟩ (.string O')) := by
  have hblk := a.1.set 0 (.string O')
  rw [set0] at hblk
  refine ⟨⟨hblk, ?_⟩, Turn.of_set (S := own2 h v) w (p := ⟨h, 0, none⟩) (.inl rfl) _⟩
  exact Turn.row (S := fun k => k = h) (Turn.of_set (S := fun k => k = h) w (p := ⟨h, 0, none⟩) rfl _) a.2 (fun k hk e => a.sep (by rw [hk, e]))

theorem rRaw_any (h : Nat) (O : ByteArray) (v : Value) (B : List UInt8) (ms : Marks) (s : ByteArray) (w : World) (hO : O.data.toList = B) (hB : B.length ≤ 4096) (hs : s.size ≤ maxLen) (a : RW w h O v ms) :
    Calls Try.prog 51 #[.pointer (some ⟨h, 0, none⟩), .string s] w fun e w' => e = .returned (.int .i64 (rawE B s)) ∧ RLeft h v w w' (rawB B s) ms := by
  have hOs : O.size = B.length := by rw [← data_len, hO]
  have c0 : w.cell? ⟨h, 0, none⟩ = some (.string O) := a.1.cell 0
  have f0 := a.1.frozen 0
  have HA : Hid (RW w h O v ms) := a
  have hs := hs
  unfold maxLen at hs
  clear a
  by_cases hfit : B.length + s.size ≤ 4096
  · have hfit' : decide ((4096 : Int) - (O.size : Int) < (s.size : Int)) = false := by simp; omega
    have HE : Hid (rawE B s = 0 ∧ rawB B s = (O ++ s).data.toList) := by unfold Hid rawE rawB; rw [if_pos hfit, if_pos hfit, app_list, hO]; exact ⟨rfl, rfl⟩
    have hz : O.size + s.size ≤ 100000 := by omega
    have hOb : O.size ≤ 4096 := by omega
    clear hfit hO hOs hB
    go_enter Try.func51, Try.ntmps51
    go_wp2
    go_ret
    rw [HE.out.1, HE.out.2]
    obtain ⟨b1, b2⟩ := HA.out.stored (O' := O ++ s)
    exact ⟨rfl, _, _, b1, rfl, b2, fun k hk => .inl hk⟩
  · have hfit' : (4096 : Int) - (O.size : Int) < (s.size : Int) := by omega
    have HE : Hid (rawE B s = 501 ∧ rawB B s = B) := by unfold Hid rawE rawB; rw [if_neg hfit, if_neg hfit]; exact ⟨rfl, rfl⟩
    have HO : Hid (O.data.toList = B) := hO
    have hOb : O.size ≤ 4096 := by omega
    clear hfit hO hOs hB
    go_enter Try.func51, Try.ntmps51
    go_wp2
    go_ret
    rw [HE.out.1, HE.out.2]
    exact ⟨rfl, _, _, HA.out, HO.out, Turn.refl _ _, fun k hk => .inl hk⟩

/-- Where a rest stands, as the document says it. -/
def plI : Option Nat → Int
  | none => -1
  | some q => (q : Int)
theorem plc_skip {ms : Marks} {r : List UInt8} {k : Nat} (hk : k < ms.length) (h : plc ms r = plc (ms.drop k) r) (hne : ms[k].1 ≠ r) : plc ms r = plc (ms.drop (k + 1)) r := by
  rw [h, List.drop_eq_getElem_cons hk]
  rw [plc, if_neg hne]
theorem plc_found {ms : Marks} {r : List UInt8} {k : Nat} (hk : k < ms.length) (h : plc ms r = plc (ms.drop k) r) (he : ms[k].1 = r) : plc ms r = some ms[k].2 := by
  rw [h, List.drop_eq_getElem_cons hk]
  rw [plc, if_pos he]
theorem ret_pl {R R' : Option Nat} {v : Value} (h : R = R') (hv : v = .int .i64 (plI R')) : Ending.returned v = .returned (.int .i64 (plI R)) := by rw [h, hv]

set_option maxRecDepth 20000 in
theorem rPlace_any (h : Nat) (O : ByteArray) (v : Value) (ms : Marks) (r : ByteArray) (w : World) (hm : ms.length ≤ 5000) (a : RW w h O v ms) :
    Calls Try.prog 72 #[.pointer (some ⟨h, 0, none⟩), .string r] w fun e w' => e = .returned (.int .i64 (plI (plc ms r.data.toList))) ∧ w' = w := by
  obtain ⟨y, c, hv⟩ := row_shape a.2
  obtain ⟨n, hn⟩ : ∃ n, n = ms.length := ⟨_, rfl⟩
  rw [← hn] at hv hm
  subst hv
  have c1 : w.cell? ⟨h, 1, none⟩ = some (.slice y n c) := a.1.cell 1
  have HR : Hid (w.ownsRow 0 130 2 (.slice y n c) n (mkC ms)) := by unfold Hid; rw (occs := .pos [2]) [hn]; exact a.2
  have HN : Hid (n = ms.length) := hn
  obtain ⟨R, hR⟩ : ∃ R, R = plc ms r.data.toList := ⟨_, rfl⟩
  have HRR : Hid (R = plc ms r.data.toList) := hR
  rw [← hR]
  clear a hn hR
  go_enter Try.func72, Try.ntmps72
  go_wp2
  go_loop [5] (fun i => ∃ k : Nat, k ≤ n ∧ i = .int .i64 (k : Int) ∧ Hid (plc ms r.data.toList = plc (ms.drop k) r.data.toList)) (fun i => n - (intOf i).toNat)
  case atStart => exact ⟨0, Nat.zero_le _, rfl, rfl⟩
  case round =>
    obtain ⟨k, hk, rfl, HK⟩ := hrel
    by_cases hkn : k < n
    · obtain ⟨gb, rfl⟩ := row_some HR.out (by omega)
      have hkm : k < ms.length := by have := HN.out; omega
      have hkn' : (k : Int) < (n : Int) := by omega
      obtain ⟨g1, g2⟩ := mkC_get ms k hkm
      obtain ⟨S, hS⟩ : ∃ S : ByteArray, S.data.toList = ms[k].1 := ⟨⟨ms[k].1.toArray⟩, rfl⟩
      obtain ⟨q, hq⟩ : ∃ q, q = ms[k].2 := ⟨_, rfl⟩
      have d1 : w.cell? ⟨gb, k * 2, none⟩ = some (.string S) := by rw [HR.out.cellAt (k * 2) (by omega), Nat.mul_comm, g1, mk_of hS]
      have d2 : w.cell? ⟨gb, k * 2 + 1, none⟩ = some (.int .i64 (q : Int)) := by rw [HR.out.cellAt (k * 2 + 1) (by omega), Nat.mul_comm, g2, hq]
      by_cases he : ms[k].1 = r.data.toList
      · have ht : (S.toList == r.toList) = true := by rw [ByteArray.toList_eq, ByteArray.toList_eq, hS, he]; simp
        have HP : Hid (R = some q) := by unfold Hid; rw [HRR.out, hq]; exact plc_found hkm HK.out he
        clear he hS hq g1 g2
        go_wp2
        go_ret
        exact ⟨ret_pl HP.out rfl, rfl⟩
      · have ht : (S.toList == r.toList) = false := by rw [ByteArray.toList_eq, ByteArray.toList_eq, hS]; simpa using he
        have HP : Hid (plc ms r.data.toList = plc (ms.drop (k + 1)) r.data.toList) := plc_skip hkm HK.out he
        clear he hS hq g1 g2
        go_wp2
        go_round
        case rel => exact ⟨k + 1, by omega, by go_num, HP⟩
        case measure => simp [intOf]; omega
    · have HP : Hid (R = none) := by unfold Hid; rw [HRR.out, HK.out, List.drop_of_length_le (by have := HN.out; omega)]; rfl
      have hkn' : decide (k < n) = false := by simpa using hkn
      go_wp2
      go_ret
      exact ⟨ret_pl HP.out rfl, rfl⟩

theorem rPlace_as (h : Nat) (O : ByteArray) (v : Value) (ms : Marks) (r : ByteArray) (R : Option Nat) (w : World) (hm : ms.length ≤ 5000) (a : RW w h O v ms) (hR : plc ms r.data.toList = R) :
    Calls Try.prog 72 #[.pointer (some ⟨h, 0, none⟩), .string r] w fun e w' => e = .returned (.int .i64 (plI R)) ∧ w' = w := by rw [← hR]; exact rPlace_any h O v ms r w hm a

/-- Rests are appended to a row of rests that the call owns, out of a row that lies anywhere; there may be none. -/
theorem wpList_appM (w : World) {ops : Array Oper} {rest : List Oper} {o : Oper} {a : Act} {Q : Exit → Act → World → Prop} (hgd : o.guard = none) (s x : Operand)
    (ho : o.op = .call { callee := .builtin .append, args := #[s, x], argTypes := #[98, 98] }) (base : Nat) (v : Value) (n : Nat) (xs : List Value) (hs : a.eval s = v)
    (hown : w.ownsRow base 130 2 v n xs) (x0 : Option Addr) (m c : Nat) (ms : Marks) (hx : a.eval x = .slice x0 m c) (hml : ms.length = m)
    (hcell : m = 0 ∨ ∃ ad, x0 = some ad ∧ ∀ j u, (mkC ms)[j]? = some u → w.cell? (ad.add j) = some u) (hn : n + m ≤ 10000) (hbase : base ≤ w.heap.size)
    (h : ∀ v' w', w'.ownsRow base 130 2 v' (n + m) (xs ++ mkC ms) → w.grownBy w' v.ownBlock → (v'.ownBlock = v.ownBlock ∨ ∃ g, v'.ownBlock = some g ∧ w.heap.size ≤ g) → wpList Try.prog ops Q rest (a.put o.dst v') w') :
    wpList Try.prog ops Q (o :: rest) a w := by
  obtain ⟨i0, hi, hz0, hz1, hz2⟩ := info_parts infoM
  by_cases hm : m = 0
  · subst hm
    have hms : ms = [] := List.eq_nil_of_length_eq_zero hml
    subst hms
    refine wpList_plain hgd fun K hK => ?_
    have hsrc : Src Try.prog i0.size 98 (.slice x0 0 c) 0 [] w := by
      cases x0 with
      | none => exact Src.ofNil w Try.underlying98 c
      | some ad => exact Src.ofSlice w Try.underlying98 ad 0 c [] (by simp) (fun j u hu => by simp at hu) (fun u hu => by cases hu)
    have hv : ∃ b l k, v = .slice b l k ∧ l ≤ k := by
      rcases hown.2 with ⟨rfl, rfl⟩ | ⟨g, cap, cur, rfl, _, _, hnc, _⟩
      · exact ⟨_, _, _, rfl, Nat.le_refl _⟩
      · exact ⟨_, _, _, rfl, hnc⟩
    obtain ⟨b, l, k, hv, hlk⟩ := hv
    have hrun := run_append_nothing (P := Try.prog) w 98 98 o.type 130 i0 Try.underlying98 hi b l k hlk _ hsrc
    rw [← hv] at hrun
    unfold Oper.wp
    simp only [execOp, ho, resolve, invoke, builtin, Sem.run_bind, Sem.run_pure, Result.andThen_ok, List.map_toArray, List.map_cons, List.map_nil, hs, hx, hrun]
    exact hK _ _ (h v w (by simpa [mkC] using hown) (World.grownBy.refl w _) (.inl rfl))
  · rcases hcell with h0 | ⟨ad, rfl, hcell⟩
    · exact absurd h0 hm
    refine wpList_append_lies w hgd s x 98 ho base 130 i0 (.agg #[.string ⟨#[]⟩, .int .i64 0]) 2 24 Try.underlying98 hi hz0 hz1 hz2 rfl (by decide) v n xs hs hown ad m c (mkC ms) hx (by rw [mkC_len, hml]) hcell (mkC_one ms) (by omega) (by unfold maxLen; omega) (by omega) hbase _ rfl ?_
    intro g cap w' h1 h2 h3 h4
    refine h _ w' h1 h2 ?_
    rcases h3 with h3 | h3
    · exact .inl h3.symm
    · exact .inr ⟨g, rfl, by omega⟩

end Go.Proofs.Ytcapankhobnfeaa
