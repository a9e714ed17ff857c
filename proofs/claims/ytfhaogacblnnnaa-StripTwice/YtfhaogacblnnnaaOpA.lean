/- Options and OPT records, plainly: which may be, how they are written, how they are read; there and back. -/
import Derived.Test.YtfhaogacblnnnaaGnB
namespace Go.Proofs.Ytfhaogacblnnnaa
open Go.RowKit

/-- An option. -/
structure On where
  c : Int
  d : ByteArray
/-- An OPT record, taken apart. -/
structure Ot where
  s : Int
  e : Int
  v : Int
  b : Bool
  z : Int
  os : List On
/-- Options as cells. -/
def oV (o : On) : List Value := [.int .i64 o.c, .string o.d]
def oC (os : List On) : List Value := os.flatMap oV
theorem oC_len (os : List On) : (oC os).length = os.length * 2 := flat_len (f := oV) (z := 2) (fun _ => rfl) os
theorem oC_app (a b : List On) : oC (a ++ b) = oC a ++ oC b := by simp [oC]
theorem oC_one (a : List On) : ∀ u ∈ oC a, u.oneCell' = true := by
  intro u hu
  simp only [oC, List.mem_flatMap] at hu
  obtain ⟨m, _, hu⟩ := hu
  simp [oV] at hu
  rcases hu with rfl | rfl <;> rfl
theorem oC_at {xs : List On} {k : Nat} (hk : k < xs.length) (i : Nat) (hi : i < 2) : (oC xs)[k * 2 + i]? = (oV xs[k])[i]? := flat_get (f := oV) (z := 2) (fun _ => rfl) xs k hk i hi
theorem o_cells {w : World} {g o : Nat} {xs : List On} (hc : ∀ j u, (oC xs)[j]? = some u → w.cell? ⟨g, o + j, none⟩ = some u) {k : Nat} (hk : k < xs.length) :
    w.cell? ⟨g, o + k * 2, none⟩ = some (.int .i64 xs[k].c) ∧ w.cell? ⟨g, o + k * 2 + 1, none⟩ = some (.string xs[k].d) :=
  ⟨hc _ _ (oC_at hk 0 (by decide)), hc _ _ (oC_at hk 1 (by decide))⟩
theorem ints_o (os : List On) : Ints (oC os) 2 0 os.length := fun j hj => ⟨_, by rw [oC_at hj 0 (by decide)]; rfl⟩
/-- How many bytes a text that comes in has at most. -/
def far : Nat := 140737488351232
/-- A row of options: no text is too long. -/
def ORow (w : World) (v : Value) (os : List On) : Prop := Row w v os.length (oC os) ∧ os.length ≤ maxLen ∧ ∀ o ∈ os, o.d.size ≤ far
theorem ORow.below {w w' : World} {v : Value} {os : List On} (h : ORow w v os) (hb : Below w.heap.size w w') : ORow w' v os := ⟨h.1.below hb, h.2⟩
theorem ORow.nil (w : World) : ORow w (.slice none 0 0) [] := ⟨Row.nil _ _, by decide, fun q h => by simp at h⟩
theorem ORow.own {B : Nat} {w : World} {v : Value} {os : List On} (h : w.ownsRow B 33 2 v os.length (oC os)) (h1 : os.length ≤ maxLen) (h2 : ∀ o ∈ os, o.d.size ≤ far) : ORow w v os := ⟨Row.of_own h, h1, h2⟩
theorem orow_lit {w : World} {g : Nat} {o : On} (h : Blk w g (oV o).toArray 33) (hd : o.d.size ≤ far) : ORow w (.slice (some ⟨g, 0, none⟩) 1 1) [o] :=
  ⟨Row.of_blk h (by simp [oC]) 1 1, by show 1 ≤ maxLen; exact small100 (by decide), fun x hx => by simp at hx; subst hx; exact hd⟩
/-- An api.Opt as cells. -/
def optC (o : Ot) (v : Value) : Array Value := #[.int .i64 o.s, .int .i64 o.e, .int .i64 o.v, .bool o.b, .int .i64 o.z, v]
def otZ : Ot := ⟨0, 0, 0, false, 0, []⟩
/-- An api.Rr as cells. -/
def rrC (r : Rc) : Array Value := #[.string r.n, .int .i64 r.t, .int .i64 r.c, .int .i64 r.l, .string r.d]
def rcZ : Rc := ⟨⟨#[]⟩, 0, 0, 0, ⟨#[]⟩⟩

/-- Is x from 0 up, and less than p? -/
def fitO (p x : Int) : Bool := decide (0 ≤ x) && decide (x < p)
theorem fitO_iff {p x : Int} : fitO p x = true ↔ 0 ≤ x ∧ x < p := by unfold fitO; simp

/-- An option's bytes, options' bytes. -/
def oB (o : On) : List UInt8 := [oct o.c 256, oct o.c 1, oct (o.d.size : Int) 256, oct (o.d.size : Int) 1] ++ o.d.data.toList
def osB (os : List On) : List UInt8 := os.flatMap oB
theorem oB_len (o : On) : (oB o).length = 4 + o.d.size := by simp [oB]; omega
theorem osB_nil : osB [] = [] := rfl
theorem osB_cons (o : On) (os : List On) : osB (o :: os) = oB o ++ osB os := by simp [osB]
theorem osB_app (a b : List On) : osB (a ++ b) = osB a ++ osB b := by simp [osB]
theorem osB_take {os : List On} {k : Nat} (h : k < os.length) : osB (os.take (k + 1)) = osB (os.take k) ++ oB os[k] := by
  rw [List.take_succ_eq_append_getElem h, osB_app]; simp [osB]
theorem osB_le (os : List On) (k : Nat) : (osB (os.take k)).length ≤ (osB os).length := by
  have : osB os = osB (os.take k) ++ osB (os.drop k) := by rw [← osB_app, List.take_append_drop]
  rw [this, List.length_append]; omega
theorem osB_ge (os : List On) : 4 * os.length ≤ (osB os).length := by
  induction os with
  | nil => simp
  | cons p ps ih => rw [osB_cons, List.length_append, oB_len, List.length_cons]; omega
theorem osB_each {os : List On} {o : On} (h : o ∈ os) : 4 + o.d.size ≤ (osB os).length := by
  induction os with
  | nil => simp at h
  | cons p ps ih =>
    rw [osB_cons, List.length_append, oB_len]
    rcases List.mem_cons.1 h with rfl | h
    · omega
    · have := ih h; omega

/-- May these options be? -/
def mayOs (os : List On) : Bool := os.all (fun o => fitO 65536 o.c) && decide ((osB os).length ≤ 65535)
theorem mayOs_code {os : List On} {k : Nat} (hk : k < os.length) (h : fitO 65536 os[k].c = false) : mayOs os = false := by
  unfold mayOs
  have : os.all (fun o => fitO 65536 o.c) = false := by
    rw [Bool.eq_false_iff]
    intro h1
    have := List.all_eq_true.1 h1 os[k] (List.getElem_mem hk)
    rw [h] at this
    simp at this
  rw [this, Bool.false_and]
theorem mayOs_long {os : List On} {k : Nat} (h : 65535 < (osB (os.take k)).length) : mayOs os = false := by
  unfold mayOs
  have := osB_le os k
  rw [show decide ((osB os).length ≤ 65535) = false from by simp; omega, Bool.and_false]
theorem mayOs_yes {os : List On} (h : ∀ o ∈ os, fitO 65536 o.c = true) (h2 : (osB os).length ≤ 65535) : mayOs os = true := by
  unfold mayOs
  rw [Bool.and_eq_true]
  exact ⟨List.all_eq_true.2 h, by simpa using h2⟩
theorem mayOs_iff {os : List On} : mayOs os = true ↔ (∀ o ∈ os, fitO 65536 o.c = true) ∧ (osB os).length ≤ 65535 := by
  unfold mayOs
  rw [Bool.and_eq_true, List.all_eq_true, decide_eq_true_eq]
def mayFl (o : Ot) : Bool := fitO 65536 o.s && fitO 256 o.e && fitO 256 o.v && fitO 32768 o.z
def mayOt (o : Ot) : Bool := mayFl o && mayOs o.os
/-- The fields of a Ttl. -/
def ttlO (o : Ot) : Int := o.e * 16777216 + o.v * 65536 + (if o.b then 32768 else 0) + o.z
def rootB : ByteArray := ⟨#[0]⟩
/-- What Put gives. -/
def putO (o : Ot) : Rc := if mayOt o = true then ⟨rootB, 41, o.s, ttlO o, ⟨(osB o.os).toArray⟩⟩ else rcZ
def putE (o : Ot) : Int := if mayOt o = true then 0 else 800

/-- Options out of bytes. -/
def rdF : Nat → List UInt8 → Option (List On)
  | _, [] => some []
  | f + 1, a :: b :: c :: d :: r => if (two c d).toNat ≤ r.length then (rdF f (r.drop (two c d).toNat)).map (fun os => ⟨two a b, ⟨(r.take (two c d).toNat).toArray⟩⟩ :: os) else none
  | _, _ => none
def rdL (l : List UInt8) : Option (List On) := rdF l.length l
theorem rdF_more : ∀ (f : Nat) (l : List UInt8), l.length ≤ f → rdF (f + 1) l = rdF f l := by
  intro f
  induction f with
  | zero =>
    intro l hl
    have : l = [] := List.eq_nil_of_length_eq_zero (by omega)
    subst this
    rfl
  | succ f ih =>
    intro l hl
    match l with
    | [] => rfl
    | [_] => rfl
    | [_, _] => rfl
    | [_, _, _] => rfl
    | a :: b :: c :: d :: r =>
      simp only [List.length_cons] at hl
      show (if (two c d).toNat ≤ r.length then (rdF (f + 1) (r.drop (two c d).toNat)).map _ else none) = (if (two c d).toNat ≤ r.length then (rdF f (r.drop (two c d).toNat)).map _ else none)
      rw [ih _ (by rw [List.length_drop]; omega)]
theorem rdF_eq (l : List UInt8) : ∀ k, rdF (l.length + k) l = rdL l := by
  intro k
  induction k with
  | zero => rfl
  | succ k ih => rw [← Nat.add_assoc, rdF_more _ _ (by omega), ih]
theorem rdL_nil : rdL [] = some [] := rfl
theorem rdL_cons (a b c d : UInt8) (r : List UInt8) : rdL (a :: b :: c :: d :: r) = if (two c d).toNat ≤ r.length then (rdL (r.drop (two c d).toNat)).map (fun os => ⟨two a b, ⟨(r.take (two c d).toNat).toArray⟩⟩ :: os) else none := by
  have h := rdF_eq (r.drop (two c d).toNat) (r.length + 3 - (r.drop (two c d).toNat).length)
  rw [show (r.drop (two c d).toNat).length + (r.length + 3 - (r.drop (two c d).toNat).length) = r.length + 3 from by rw [List.length_drop]; omega] at h
  rw [← h]
  rfl
theorem rdL_short {l : List UInt8} (h0 : l ≠ []) (h : l.length < 4) : rdL l = none := by
  match l, h0, h with
  | [_], _, _ => rfl
  | [_, _], _, _ => rfl
  | [_, _, _], _, _ => rfl
theorem oct_two (a b : UInt8) : oct (two a b) 256 = a ∧ oct (two a b) 1 = b := by
  have ha := a.toNat_lt
  have hb := b.toNat_lt
  constructor
  · apply UInt8.toNat_inj.1
    have := oct_nat (two a b) 256
    unfold two at this ⊢
    omega
  · apply UInt8.toNat_inj.1
    have := oct_nat (two a b) 1
    unfold two at this ⊢
    omega
/-- What was read is written as it was. -/
theorem rd_back : ∀ (n : Nat) (l : List UInt8) (os : List On), l.length ≤ n → rdL l = some os → osB os = l ∧ ∀ o ∈ os, fitO 65536 o.c = true := by
  intro n
  induction n with
  | zero =>
    intro l os hl h
    have : l = [] := List.eq_nil_of_length_eq_zero (by omega)
    subst this
    rw [rdL_nil] at h
    simp at h
    subst h
    exact ⟨rfl, fun o ho => by simp at ho⟩
  | succ n ih =>
    intro l os hl h
    match l with
    | [] =>
      rw [rdL_nil] at h
      simp at h
      subst h
      exact ⟨rfl, fun o ho => by simp at ho⟩
    | [a] => rw [rdL_short (by simp) (by simp)] at h; simp at h
    | [a, b] => rw [rdL_short (by simp) (by simp)] at h; simp at h
    | [a, b, c] => rw [rdL_short (by simp) (by simp)] at h; simp at h
    | a :: b :: c :: d :: r =>
      rw [rdL_cons] at h
      split at h
      · rename_i hle
        rw [Option.map_eq_some_iff] at h
        obtain ⟨os', h1, rfl⟩ := h
        obtain ⟨h2, h3⟩ := ih _ _ (by simp at hl ⊢; omega) h1
        have ht := two_lt c d
        refine ⟨?_, fun o ho => ?_⟩
        · rw [osB_cons, h2]
          unfold oB
          have hs : (⟨(r.take (two c d).toNat).toArray⟩ : ByteArray).size = (two c d).toNat := by
            show (r.take (two c d).toNat).toArray.size = _
            simp; omega
          simp only
          rw [hs, Int.toNat_of_nonneg ht.1, (oct_two a b).1, (oct_two a b).2, (oct_two c d).1, (oct_two c d).2]
          simp
        · rcases List.mem_cons.1 ho with rfl | ho
          · have := two_lt a b
            exact fitO_iff.2 ⟨this.1, this.2⟩
          · exact h3 o ho
      · simp at h
/-- What was written is read as it was. -/
theorem two_oct (x : Int) (h : fitO 65536 x = true) : two (oct x 256) (oct x 1) = x := by
  have := fitO_iff.1 h
  rw [two_be]; omega
theorem rd_put : ∀ (os : List On), (∀ o ∈ os, fitO 65536 o.c = true) → (∀ o ∈ os, o.d.size ≤ 65535) → rdL (osB os) = some os := by
  intro os
  induction os with
  | nil => intro _ _; exact rdL_nil
  | cons o os ih =>
    intro h1 h2
    rw [osB_cons]
    unfold oB
    have hz := h2 o (by simp)
    have e2 : two (oct (o.d.size : Int) 256) (oct (o.d.size : Int) 1) = (o.d.size : Int) := two_oct _ (fitO_iff.2 ⟨by omega, by omega⟩)
    have e1 := two_oct o.c (h1 o (by simp))
    have hl : o.d.data.toList.length = o.d.size := data_len o.d
    simp only [List.cons_append, List.nil_append]
    rw [rdL_cons, e2, e1, Int.toNat_natCast, if_pos (by simp), List.drop_append, List.take_append]
    rw [List.drop_of_length_le (by omega), List.take_of_length_le (by omega), hl, Nat.sub_self, List.drop_zero, List.take_zero, List.nil_append, List.append_nil, ih (fun o ho => h1 o (by simp [ho])) (fun o ho => h2 o (by simp [ho])), arr_list]
    rfl

/-- Is it an OPT record, whatever stands in its data? -/
def mayRc (r : Rc) : Bool := decide (r.n = rootB) && (r.t == 41) && fitO 65536 r.c && fitO 4294967296 r.l && decide (r.d.size ≤ 65535)
/-- What Get gives. -/
def splO (r : Rc) (os : List On) : Ot := ⟨r.c, r.l / 16777216, r.l / 65536 % 256, r.l / 32768 % 2 == 1, r.l % 32768, os⟩
def getO (r : Rc) : Ot := if mayRc r = true then (match rdL r.d.data.toList with | some os => splO r os | none => otZ) else otZ
def getE (r : Rc) : Int := if mayRc r = true then (match rdL r.d.data.toList with | some _ => 0 | none => 800) else 800
theorem get_no {r : Rc} (h : mayRc r = false) : getO r = otZ ∧ getE r = 800 := by unfold getO getE; rw [h]; exact ⟨rfl, rfl⟩
theorem get_none {r : Rc} (h : rdL r.d.data.toList = none) : getO r = otZ ∧ getE r = 800 := by unfold getO getE; rw [h]; simp
theorem get_some {r : Rc} {os : List On} (h : mayRc r = true) (h1 : rdL r.d.data.toList = some os) : getO r = splO r os ∧ getE r = 0 := by unfold getO getE; rw [h, h1]; exact ⟨rfl, rfl⟩
/-- What Find gives. -/
def optL (rs : List Rc) : List Rc := rs.filter (fun r => r.t == 41)
def finO (rs : List Rc) : Ot := match optL rs with | [] => otZ | r :: _ => getO r
def finN (rs : List Rc) : Nat := (optL rs).length

/-- How many options there are at most. -/
theorem rd_len {l : List UInt8} {os : List On} (h : rdL l = some os) : 4 * os.length ≤ l.length ∧ ∀ o ∈ os, 4 + o.d.size ≤ l.length := by
  have := (rd_back l.length l os (Nat.le_refl _) h).1
  exact ⟨by rw [← this]; exact osB_ge os, fun o ho => by rw [← this]; exact osB_each ho⟩
theorem getO_small (r : Rc) : (getO r).os.length ≤ 16384 ∧ ∀ o ∈ (getO r).os, o.d.size ≤ 65535 := by
  unfold getO
  split
  · rename_i hm
    cases h : rdL r.d.data.toList with
    | none => exact ⟨by simp [otZ], fun o ho => by simp [otZ] at ho⟩
    | some os =>
      obtain ⟨h1, h2⟩ := rd_len h
      rw [data_len] at h1 h2
      unfold mayRc at hm
      simp only [Bool.and_eq_true, decide_eq_true_eq] at hm
      exact ⟨by show os.length ≤ _; omega, fun o ho => by have := h2 o ho; omega⟩
  · exact ⟨by simp [otZ], fun o ho => by simp [otZ] at ho⟩
theorem finO_small (rs : List Rc) : (finO rs).os.length ≤ 16384 ∧ ∀ o ∈ (finO rs).os, o.d.size ≤ 65535 := by
  unfold finO
  split
  · exact ⟨by simp [otZ], fun o ho => by simp [otZ] at ho⟩
  · exact getO_small _

/-- There and back. -/
theorem ttl_lt {o : Ot} (h : mayFl o = true) : 0 ≤ ttlO o ∧ ttlO o < 4294967296 := by
  unfold mayFl at h
  simp only [Bool.and_eq_true] at h
  obtain ⟨⟨⟨_, h2⟩, h3⟩, h4⟩ := h
  have := fitO_iff.1 h2
  have := fitO_iff.1 h3
  have := fitO_iff.1 h4
  unfold ttlO
  split <;> omega
theorem put_get {o : Ot} (h : mayOt o = true) : getO (putO o) = o ∧ getE (putO o) = 0 := by
  have h' := h
  unfold mayOt at h'
  rw [Bool.and_eq_true] at h'
  obtain ⟨hf, ho⟩ := h'
  obtain ⟨h1, h2⟩ := mayOs_iff.1 ho
  have ht := ttl_lt hf
  have hp : putO o = ⟨rootB, 41, o.s, ttlO o, ⟨(osB o.os).toArray⟩⟩ := by unfold putO; rw [if_pos h]
  have hf' := hf
  unfold mayFl at hf'
  simp only [Bool.and_eq_true] at hf'
  obtain ⟨⟨⟨f1, f2⟩, f3⟩, f4⟩ := hf'
  have hm : mayRc (putO o) = true := by
    rw [hp]
    unfold mayRc
    simp only [Bool.and_eq_true]
    refine ⟨⟨⟨⟨by simp, by simp⟩, f1⟩, fitO_iff.2 ht⟩, ?_⟩
    rw [decide_eq_true_eq, toArr_size]
    exact h2
  have hr : rdL (putO o).d.data.toList = some o.os := by
    rw [hp]
    exact rd_put o.os h1 (fun x hx => by have := osB_each hx; omega)
  obtain ⟨g1, g2⟩ := get_some hm hr
  refine ⟨?_, g2⟩
  rw [g1, hp]
  have k2 := fitO_iff.1 f2
  have k3 := fitO_iff.1 f3
  have k4 := fitO_iff.1 f4
  obtain ⟨s, e, v, b, z, os⟩ := o
  simp only at k2 k3 k4
  unfold splO ttlO
  simp only
  have e1 : (e * 16777216 + v * 65536 + (if b = true then 32768 else 0) + z) / 16777216 = e := by split <;> omega
  have e2 : (e * 16777216 + v * 65536 + (if b = true then 32768 else 0) + z) / 65536 % 256 = v := by split <;> omega
  have e3 : (e * 16777216 + v * 65536 + (if b = true then 32768 else 0) + z) % 32768 = z := by split <;> omega
  have e4 : ((e * 16777216 + v * 65536 + (if b = true then 32768 else 0) + z) / 32768 % 2 == 1) = b := by
    cases b
    · simp; omega
    · simp; omega
  rw [e1, e2, e3, e4]
theorem get_put {r : Rc} (h : getE r = 0) : mayOt (getO r) = true ∧ putO (getO r) = r := by
  have hm : mayRc r = true := by
    cases hm : mayRc r with
    | true => rfl
    | false => rw [(get_no hm).2] at h; simp at h
  cases hr : rdL r.d.data.toList with
  | none => rw [(get_none hr).2] at h; simp at h
  | some os =>
    obtain ⟨g1, -⟩ := get_some hm hr
    obtain ⟨b1, b2⟩ := rd_back _ _ _ (Nat.le_refl _) hr
    have hm' := hm
    unfold mayRc at hm'
    simp only [Bool.and_eq_true, decide_eq_true_eq, beq_iff_eq] at hm'
    obtain ⟨⟨⟨⟨m1, m2⟩, m3⟩, m4⟩, m5⟩ := hm'
    have hl := fitO_iff.1 m4
    have ho : mayOt (splO r os) = true := by
      unfold mayOt mayFl splO
      simp only [Bool.and_eq_true]
      refine ⟨⟨⟨⟨m3, fitO_iff.2 ⟨by omega, by omega⟩⟩, fitO_iff.2 ⟨by omega, by omega⟩⟩, fitO_iff.2 ⟨by omega, by omega⟩⟩, mayOs_yes b2 (by rw [b1, data_len]; exact m5)⟩
    rw [g1]
    refine ⟨ho, ?_⟩
    unfold putO
    rw [if_pos ho]
    unfold splO ttlO
    simp only
    rw [b1, arr_list]
    obtain ⟨n, t, c, l, d⟩ := r
    simp only at *
    subst m1 m2
    have hs : l / 16777216 * 16777216 + l / 65536 % 256 * 65536 + (if (l / 32768 % 2 == 1) = true then 32768 else 0) + l % 32768 = l := by
      by_cases hb : l / 32768 % 2 = 1
      · rw [if_pos (by simpa using hb)]; omega
      · rw [if_neg (by simpa using hb)]; omega
    rw [hs]

theorem own_sep {w : World} {B e z n g : Nat} {v : Value} {xs : List Value} {C : Array Value} {t : TypeId} (h : w.ownsRow B e z v n xs) (hb : Blk w g C t) (ht : t ≠ e) : some g ≠ v.ownBlock := by
  intro hk
  rcases h.2 with ⟨h1, _⟩ | ⟨g', cap, cur, h1, _, hg, _⟩
  · rw [h1] at hk; simp [Value.ownBlock] at hk
  · rw [h1] at hk
    simp [Value.ownBlock] at hk
    subst hk
    unfold Blk at hb
    rw [hg] at hb
    simp at hb
    exact ht hb.2.symm
/-- Six cells of an api.Opt. -/
theorem Blk.six {w : World} {g : Nat} {o : Ot} {v : Value} {t : TypeId} (k : Blk w g (optC o v) t) :
    w.cell? ⟨g, 0, none⟩ = some (.int .i64 o.s) ∧ w.cell? ⟨g, 1, none⟩ = some (.int .i64 o.e) ∧ w.cell? ⟨g, 2, none⟩ = some (.int .i64 o.v) ∧ w.cell? ⟨g, 3, none⟩ = some (.bool o.b) ∧ w.cell? ⟨g, 4, none⟩ = some (.int .i64 o.z) ∧ w.cell? ⟨g, 5, none⟩ = some v :=
  ⟨k.cell 0, k.cell 1, k.cell 2, k.cell 3, k.cell 4, k.cell 5⟩
theorem Blk.open6 {w : World} {g : Nat} {C : Array Value} {t : TypeId} (k : Blk w g C t) :
    w.frozen? ⟨g, 0, none⟩ = false ∧ w.frozen? ⟨g, 1, none⟩ = false ∧ w.frozen? ⟨g, 2, none⟩ = false ∧ w.frozen? ⟨g, 3, none⟩ = false ∧ w.frozen? ⟨g, 4, none⟩ = false ∧ w.frozen? ⟨g, 5, none⟩ = false :=
  ⟨k.frozen 0, k.frozen 1, k.frozen 2, k.frozen 3, k.frozen 4, k.frozen 5⟩
/-- Six cells are stored. -/
def set6 (w : World) (g : Nat) (o : Ot) (v : Value) : World :=
  (((((w.setCell ⟨g, 0, none⟩ (.int .i64 o.s)).setCell ⟨g, 1, none⟩ (.int .i64 o.e)).setCell ⟨g, 2, none⟩ (.int .i64 o.v)).setCell ⟨g, 3, none⟩ (.bool o.b)).setCell ⟨g, 4, none⟩ (.int .i64 o.z)).setCell ⟨g, 5, none⟩ v
theorem set6_blk {w : World} {g : Nat} {o o' : Ot} {v v' : Value} {t : TypeId} (k : Blk w g (optC o' v') t) : Blk (set6 w g o v) g (optC o v) t := by
  have k0 : Blk _ g (optC ⟨o.s, o'.e, o'.v, o'.b, o'.z, []⟩ v') t := k.set 0 (.int .i64 o.s)
  have k1 : Blk _ g (optC ⟨o.s, o.e, o'.v, o'.b, o'.z, []⟩ v') t := k0.set 1 (.int .i64 o.e)
  have k2 : Blk _ g (optC ⟨o.s, o.e, o.v, o'.b, o'.z, []⟩ v') t := k1.set 2 (.int .i64 o.v)
  have k3 : Blk _ g (optC ⟨o.s, o.e, o.v, o.b, o'.z, []⟩ v') t := k2.set 3 (.bool o.b)
  have k4 : Blk _ g (optC ⟨o.s, o.e, o.v, o.b, o.z, []⟩ v') t := k3.set 4 (.int .i64 o.z)
  have k5 : Blk _ g (optC o v) t := k4.set 5 v
  exact k5
theorem set6_turn (w : World) (g : Nat) (o : Ot) (v : Value) : Turn (fun k => k = g) w (set6 w g o v) := by
  have T : ∀ (u : World) (i : Nat) (v : Value), Turn (fun k => k = g) u (u.setCell ⟨g, i, none⟩ v) := fun u i v => Turn.of_set (S := fun k => k = g) u (p := ⟨g, i, none⟩) rfl v
  unfold set6
  exact (((((T _ _ _).same (T _ _ _)).same (T _ _ _)).same (T _ _ _)).same (T _ _ _)).same (T _ _ _)
theorem set6_below {B : Nat} {w a : World} (h : Below B w a) {g : Nat} (hg : B ≤ g) (ha : B ≤ a.heap.size) (o : Ot) (v : Value) : Below B w (set6 a g o v) :=
  Turn.below h (set6_turn a g o v) ha (fun i e => by subst e; exact hg)
theorem Blk.six' {w : World} {g : Nat} {a b c d e f : Value} {t : TypeId} (k : Blk w g #[a, b, c, d, e, f] t) :
    w.cell? ⟨g, 0, none⟩ = some a ∧ w.cell? ⟨g, 1, none⟩ = some b ∧ w.cell? ⟨g, 2, none⟩ = some c ∧ w.cell? ⟨g, 3, none⟩ = some d ∧ w.cell? ⟨g, 4, none⟩ = some e ∧ w.cell? ⟨g, 5, none⟩ = some f :=
  ⟨k.cell 0, k.cell 1, k.cell 2, k.cell 3, k.cell 4, k.cell 5⟩
theorem Blk.five' {w : World} {g : Nat} {a b c d e : Value} {t : TypeId} (k : Blk w g #[a, b, c, d, e] t) :
    w.cell? ⟨g, 0, none⟩ = some a ∧ w.cell? ⟨g, 1, none⟩ = some b ∧ w.cell? ⟨g, 2, none⟩ = some c ∧ w.cell? ⟨g, 3, none⟩ = some d ∧ w.cell? ⟨g, 4, none⟩ = some e :=
  ⟨k.cell 0, k.cell 1, k.cell 2, k.cell 3, k.cell 4⟩
/-- Five cells of an api.Rr. -/
theorem Blk.five {w : World} {g : Nat} {r : Rc} {t : TypeId} (k : Blk w g (rrC r) t) :
    w.cell? ⟨g, 0, none⟩ = some (.string r.n) ∧ w.cell? ⟨g, 1, none⟩ = some (.int .i64 r.t) ∧ w.cell? ⟨g, 2, none⟩ = some (.int .i64 r.c) ∧ w.cell? ⟨g, 3, none⟩ = some (.int .i64 r.l) ∧ w.cell? ⟨g, 4, none⟩ = some (.string r.d) :=
  ⟨k.cell 0, k.cell 1, k.cell 2, k.cell 3, k.cell 4⟩
theorem Blk.open5 {w : World} {g : Nat} {C : Array Value} {t : TypeId} (k : Blk w g C t) :
    w.frozen? ⟨g, 0, none⟩ = false ∧ w.frozen? ⟨g, 1, none⟩ = false ∧ w.frozen? ⟨g, 2, none⟩ = false ∧ w.frozen? ⟨g, 3, none⟩ = false ∧ w.frozen? ⟨g, 4, none⟩ = false :=
  ⟨k.frozen 0, k.frozen 1, k.frozen 2, k.frozen 3, k.frozen 4⟩
def set5 (w : World) (g : Nat) (r : Rc) : World :=
  ((((w.setCell ⟨g, 0, none⟩ (.string r.n)).setCell ⟨g, 1, none⟩ (.int .i64 r.t)).setCell ⟨g, 2, none⟩ (.int .i64 r.c)).setCell ⟨g, 3, none⟩ (.int .i64 r.l)).setCell ⟨g, 4, none⟩ (.string r.d)
theorem set5_blk {w : World} {g : Nat} {r r' : Rc} {t : TypeId} (k : Blk w g (rrC r') t) : Blk (set5 w g r) g (rrC r) t := by
  have k0 : Blk _ g (rrC ⟨r.n, r'.t, r'.c, r'.l, r'.d⟩) t := k.set 0 (.string r.n)
  have k1 : Blk _ g (rrC ⟨r.n, r.t, r'.c, r'.l, r'.d⟩) t := k0.set 1 (.int .i64 r.t)
  have k2 : Blk _ g (rrC ⟨r.n, r.t, r.c, r'.l, r'.d⟩) t := k1.set 2 (.int .i64 r.c)
  have k3 : Blk _ g (rrC ⟨r.n, r.t, r.c, r.l, r'.d⟩) t := k2.set 3 (.int .i64 r.l)
  have k4 : Blk _ g (rrC r) t := k3.set 4 (.string r.d)
  exact k4
theorem set5_turn (w : World) (g : Nat) (r : Rc) : Turn (fun k => k = g) w (set5 w g r) := by
  have T : ∀ (u : World) (i : Nat) (v : Value), Turn (fun k => k = g) u (u.setCell ⟨g, i, none⟩ v) := fun u i v => Turn.of_set (S := fun k => k = g) u (p := ⟨g, i, none⟩) rfl v
  unfold set5
  exact ((((T _ _ _).same (T _ _ _)).same (T _ _ _)).same (T _ _ _)).same (T _ _ _)
theorem set5_below {B : Nat} {w a : World} (h : Below B w a) {g : Nat} (hg : B ≤ g) (ha : B ≤ a.heap.size) (r : Rc) : Below B w (set5 a g r) :=
  Turn.below h (set5_turn a g r) ha (fun i e => by subst e; exact hg)

end Go.Proofs.Ytfhaogacblnnnaa
