/- Messages in memory, where the seat has no text of package wire's to take it from; how far a message's rows and strings may reach. -/
import Derived.Test.YtnecdpieoipjdaaGnC
namespace Go.Proofs.Ytnecdpieoipjdaa
open Go.ChangeShapes Go.WideShapes Go.ChangeAt Go.RowKit

/-- The rows of a message that the call made. -/
structure Own (B : Nat) (w : World) (v0 v1 v2 v3 : Value) (m : Ms) : Prop where
  q : w.ownsRow B 58 3 v0 m.qs.length (qC m.qs)
  an : w.ownsRow B 42 5 v1 m.an.length (rC m.an)
  ns : w.ownsRow B 42 5 v2 m.ns.length (rC m.ns)
  ar : w.ownsRow B 42 5 v3 m.ar.length (rC m.ar)
  d12 : ∀ k, v1.ownBlock = some k → v2.ownBlock ≠ some k
  d13 : ∀ k, v1.ownBlock = some k → v3.ownBlock ≠ some k
  d23 : ∀ k, v2.ownBlock = some k → v3.ownBlock ≠ some k
theorem Own.none (B : Nat) (w : World) : Own B w (.slice none 0 0) (.slice none 0 0) (.slice none 0 0) (.slice none 0 0) msZ :=
  ⟨World.ownsRow_nil _ _ _ _, World.ownsRow_nil _ _ _ _, World.ownsRow_nil _ _ _ _, World.ownsRow_nil _ _ _ _, fun k e => by simp [Value.ownBlock] at e, fun k e => by simp [Value.ownBlock] at e, fun k e => by simp [Value.ownBlock] at e⟩
theorem Own.below {B : Nat} {w w' : World} {v0 v1 v2 v3 : Value} {m : Ms} (h : Own B w v0 v1 v2 v3 m) (hb : Below w.heap.size w w') : Own B w' v0 v1 v2 v3 m :=
  ⟨own_past h.q hb, own_past h.an hb, own_past h.ns hb, own_past h.ar hb, h.d12, h.d13, h.d23⟩
/-- Thirteen cells are stored. -/
def set13 (w : World) (g : Nat) (h : Hd) (v0 v1 v2 v3 : Value) : World :=
  ((((((((((((w.setCell ⟨g, 0, none⟩ (.int .i64 h.id)).setCell ⟨g, 1, none⟩ (.bool h.qr)).setCell ⟨g, 2, none⟩ (.int .i64 h.op)).setCell ⟨g, 3, none⟩ (.bool h.aa)).setCell ⟨g, 4, none⟩ (.bool h.tc)).setCell ⟨g, 5, none⟩ (.bool h.rd)).setCell ⟨g, 6, none⟩ (.bool h.ra)).setCell ⟨g, 7, none⟩ (.int .i64 h.z)).setCell ⟨g, 8, none⟩ (.int .i64 h.rc)).setCell ⟨g, 9, none⟩ v0).setCell ⟨g, 10, none⟩ v1).setCell ⟨g, 11, none⟩ v2).setCell ⟨g, 12, none⟩ v3
theorem set13_blk {w : World} {g : Nat} {h h' : Hd} {v0 v1 v2 v3 u0 u1 u2 u3 : Value} {t : TypeId} (k : Blk w g (msgC h' u0 u1 u2 u3) t) : Blk (set13 w g h v0 v1 v2 v3) g (msgC h v0 v1 v2 v3) t := by
  have k0 : Blk _ g (msgC ⟨h.id, h'.qr, h'.op, h'.aa, h'.tc, h'.rd, h'.ra, h'.z, h'.rc⟩ u0 u1 u2 u3) t := k.set 0 (.int .i64 h.id)
  have k1 : Blk _ g (msgC ⟨h.id, h.qr, h'.op, h'.aa, h'.tc, h'.rd, h'.ra, h'.z, h'.rc⟩ u0 u1 u2 u3) t := k0.set 1 (.bool h.qr)
  have k2 : Blk _ g (msgC ⟨h.id, h.qr, h.op, h'.aa, h'.tc, h'.rd, h'.ra, h'.z, h'.rc⟩ u0 u1 u2 u3) t := k1.set 2 (.int .i64 h.op)
  have k3 : Blk _ g (msgC ⟨h.id, h.qr, h.op, h.aa, h'.tc, h'.rd, h'.ra, h'.z, h'.rc⟩ u0 u1 u2 u3) t := k2.set 3 (.bool h.aa)
  have k4 : Blk _ g (msgC ⟨h.id, h.qr, h.op, h.aa, h.tc, h'.rd, h'.ra, h'.z, h'.rc⟩ u0 u1 u2 u3) t := k3.set 4 (.bool h.tc)
  have k5 : Blk _ g (msgC ⟨h.id, h.qr, h.op, h.aa, h.tc, h.rd, h'.ra, h'.z, h'.rc⟩ u0 u1 u2 u3) t := k4.set 5 (.bool h.rd)
  have k6 : Blk _ g (msgC ⟨h.id, h.qr, h.op, h.aa, h.tc, h.rd, h.ra, h'.z, h'.rc⟩ u0 u1 u2 u3) t := k5.set 6 (.bool h.ra)
  have k7 : Blk _ g (msgC ⟨h.id, h.qr, h.op, h.aa, h.tc, h.rd, h.ra, h.z, h'.rc⟩ u0 u1 u2 u3) t := k6.set 7 (.int .i64 h.z)
  have k8 : Blk _ g (msgC ⟨h.id, h.qr, h.op, h.aa, h.tc, h.rd, h.ra, h.z, h.rc⟩ u0 u1 u2 u3) t := k7.set 8 (.int .i64 h.rc)
  have k9 : Blk _ g (msgC ⟨h.id, h.qr, h.op, h.aa, h.tc, h.rd, h.ra, h.z, h.rc⟩ v0 u1 u2 u3) t := k8.set 9 v0
  have k10 : Blk _ g (msgC ⟨h.id, h.qr, h.op, h.aa, h.tc, h.rd, h.ra, h.z, h.rc⟩ v0 v1 u2 u3) t := k9.set 10 v1
  have k11 : Blk _ g (msgC ⟨h.id, h.qr, h.op, h.aa, h.tc, h.rd, h.ra, h.z, h.rc⟩ v0 v1 v2 u3) t := k10.set 11 v2
  have k12 : Blk _ g (msgC ⟨h.id, h.qr, h.op, h.aa, h.tc, h.rd, h.ra, h.z, h.rc⟩ v0 v1 v2 v3) t := k11.set 12 v3
  exact k12
theorem set13_turn (w : World) (g : Nat) (h : Hd) (v0 v1 v2 v3 : Value) : Turn (fun k => k = g) w (set13 w g h v0 v1 v2 v3) := by
  have T : ∀ (u : World) (i : Nat) (v : Value), Turn (fun k => k = g) u (u.setCell ⟨g, i, none⟩ v) := fun u i v => Turn.of_set (S := fun k => k = g) u (p := ⟨g, i, none⟩) rfl v
  unfold set13
  exact ((((((((((((T _ _ _).same (T _ _ _)).same (T _ _ _)).same (T _ _ _)).same (T _ _ _)).same (T _ _ _)).same (T _ _ _)).same (T _ _ _)).same (T _ _ _)).same (T _ _ _)).same (T _ _ _)).same (T _ _ _)).same (T _ _ _)
theorem infoQ : (Try.prog.info? 58).map (fun i => (i.zero, i.size, i.bytes)) = some (some (.agg #[.string ⟨#[]⟩, .int .i64 0, .int .i64 0]), 3, 32) := by kernel_rfl
theorem infoR : (Try.prog.info? 42).map (fun i => (i.zero, i.size, i.bytes)) = some (some (.agg #[.string ⟨#[]⟩, .int .i64 0, .int .i64 0, .int .i64 0, .string ⟨#[]⟩]), 5, 56) := by kernel_rfl

/-- No row and no string of a message is greater than what is let in. -/
structure Fits (m : Ms) : Prop where
  q : m.qs.length * 32 ≤ 140737488351232
  an : m.an.length * 56 ≤ 140737488351232
  ns : m.ns.length * 56 ≤ 140737488351232
  ar : m.ar.length * 56 ≤ 140737488351232
  sq : ∀ x ∈ m.qs, x.n.size ≤ 140737488351232
  san : ∀ r ∈ m.an, r.n.size ≤ 140737488351232 ∧ r.d.size ≤ 140737488351232
  sns : ∀ r ∈ m.ns, r.n.size ≤ 140737488351232 ∧ r.d.size ≤ 140737488351232
  sar : ∀ r ∈ m.ar, r.n.size ≤ 140737488351232 ∧ r.d.size ≤ 140737488351232

theorem weights_inM {H : Type} {P : Program} {e : TypeId} {d : DataW H} {n : Nat} : ∀ {l : List (DataW H)}, d ∈ l → n ∈ d.weights P e → n ∈ DataW.weightsAll P e l := by
  intro l
  induction l with
  | nil => intro h; simp at h
  | cons a l ih =>
    intro h hn
    simp only [DataW.weightsAll, List.mem_append]
    rcases List.mem_cons.1 h with rfl | h
    · exact .inl hn
    · exact .inr (ih h hn)

section
variable {H : Type} {enc : TypeId × Value → H} {W : World}
set_option maxRecDepth 20000 in
theorem open_qfar {fuel : Nat} {c : Value} {x : DataW H × List MemPlace} (h : DataW.trod enc Try.prog W 0 (fun _ => true) true fuel 24 [c] = some x) (hw : (x.1.weights Try.prog 24).all (· ≤ reachBytes) = true) : ∃ rs : List Qn, Row W c rs.length (qC rs) ∧ rs.length * 32 ≤ 140737488351232 ∧ ∀ r ∈ rs, r.n.size ≤ 140737488351232 := by
  rcases DataW.trod_slice Try.underlying24 h with ⟨h0, _⟩ | ⟨a, len, cap, elems, rest, n, _, hcs, hx, _, hlc, hcm, hlen, hel, _, _⟩
  · simp at h0
    subst h0
    exact ⟨[], Row.nil W _, by simp, fun r h => by simp at h⟩
  · simp at hcs
    subst hcs
    rw [hx] at hw
    have hwa : ∀ y ∈ elems, (y.1.weights Try.prog 58).all (· ≤ reachBytes) = true := fun y hy => List.all_eq_true.2 fun k hk => List.all_eq_true.1 hw k (by
      simp only [DataW.weights, Try.underlying24, List.mem_cons, List.mem_append]
      exact .inr (.inl (weights_inM (List.mem_map_of_mem hy) hk)))
    have hwl : len * 32 ≤ 140737488351232 := by
      have := List.all_eq_true.1 hw ((elems.length + rest.length) * Try.prog.bytesOf 58) (by simp [DataW.weights, Try.underlying24])
      simp only [decide_eq_true_eq] at this
      rw [q_bytes] at this
      unfold reachBytes at this
      omega
    have each : ∀ i, i < len → ∃ r : Qn, (∀ j, j < 3 → W.cell? ((a.add (i * 3)).add j) = (qV r)[j]?) ∧ r.n.size ≤ 140737488351232 := by
      intro i hi
      have hb := hel i hi
      rw [q_cellsOf] at hb
      have hs : elems[i]? = some elems[i] := List.getElem?_eq_getElem (by omega)
      have hm : elems[i] ∈ elems := List.getElem_mem _
      rw [hs, Option.bind_eq_some_iff] at hb
      obtain ⟨cs, hcs, hy⟩ := hb
      obtain ⟨_, hcl, hcell⟩ := World.cells?_some hcs
      have hwi := hwa _ hm
      obtain ⟨xs, k, _, hxx, _, hxl, hf⟩ := DataW.trod_struct Try.underlying58 hy
      match xs, hxl, cs, hcl, hcell, hf, hxx with
      | [y0, y1, y2], _, [c0, c1, c2], _, hcell, hf, hxx =>
        have t0 := hf 0 _ rfl
        have t1 := hf 1 _ rfl
        have t2 := hf 2 _ rfl
        simp [s_cellsOf, int_cells] at t0 t1 t2
        obtain ⟨s0, e0, z0, _⟩ := DataW.trod_string Try.underlying9 t0
        obtain ⟨s1, e1, _, _⟩ := DataW.trod_int Try.underlying3 t1
        obtain ⟨s2, e2, _, _⟩ := DataW.trod_int Try.underlying3 t2
        simp at e0 e1 e2
        have hd : elems[i].1 = .agg [y0.1, y1.1, y2.1] := by
          have := congrArg Prod.fst hxx
          simpa using this
        rw [hd] at hwi
        have hw' : (DataW.weightsEach Try.prog [9, 3, 3] [y0.1, y1.1, y2.1]).all (· ≤ reachBytes) = true := by
          rw [← hwi]
          unfold DataW.weights
          rw [Try.underlying58]
          rfl
        have hz0 := sized_string hw' (j := 0) (t := 9) (bytes := s0.data.toList) rfl (by rw [z0]; rfl)
        rw [data_len] at hz0
        refine ⟨⟨s0, s1, s2⟩, fun j hj => ?_, by unfold reachBytes at hz0; omega⟩
        have := hcell j (by simpa using hj)
        rw [this]
        subst e0 e1 e2
        rfl
    obtain ⟨rs, hl, hq⟩ := list_of len each
    refine ⟨rs, ?_, by rw [hl]; exact hwl, fun r hr => ?_⟩
    · rw [hl]
      exact row_of (f := qV) (z := 3) (fun _ => rfl) (by decide) hl (fun i hi j hj => (hq i hi).1 j hj)
    · obtain ⟨i, hi, rfl⟩ := List.getElem_of_mem hr
      exact (hq i hi).2

set_option maxRecDepth 20000 in
theorem open_rfar {fuel : Nat} {c : Value} {x : DataW H × List MemPlace} (h : DataW.trod enc Try.prog W 0 (fun _ => true) true fuel 25 [c] = some x) (hw : (x.1.weights Try.prog 25).all (· ≤ reachBytes) = true) : ∃ rs : List Rc, Row W c rs.length (rC rs) ∧ rs.length * 56 ≤ 140737488351232 ∧ ∀ r ∈ rs, r.n.size ≤ 140737488351232 ∧ r.d.size ≤ 140737488351232 := by
  rcases DataW.trod_slice Try.underlying25 h with ⟨h0, _⟩ | ⟨a, len, cap, elems, rest, n, _, hcs, hx, _, hlc, hcm, hlen, hel, _, _⟩
  · simp at h0
    subst h0
    exact ⟨[], Row.nil W _, by simp, fun r h => by simp at h⟩
  · simp at hcs
    subst hcs
    rw [hx] at hw
    have hwa : ∀ y ∈ elems, (y.1.weights Try.prog 42).all (· ≤ reachBytes) = true := fun y hy => List.all_eq_true.2 fun k hk => List.all_eq_true.1 hw k (by
      simp only [DataW.weights, Try.underlying25, List.mem_cons, List.mem_append]
      exact .inr (.inl (weights_inM (List.mem_map_of_mem hy) hk)))
    have hwl : len * 56 ≤ 140737488351232 := by
      have := List.all_eq_true.1 hw ((elems.length + rest.length) * Try.prog.bytesOf 42) (by simp [DataW.weights, Try.underlying25])
      simp only [decide_eq_true_eq] at this
      rw [r_bytes] at this
      unfold reachBytes at this
      omega
    have each : ∀ i, i < len → ∃ r : Rc, (∀ j, j < 5 → W.cell? ((a.add (i * 5)).add j) = (rV r)[j]?) ∧ r.n.size ≤ 140737488351232 ∧ r.d.size ≤ 140737488351232 := by
      intro i hi
      have hb := hel i hi
      rw [r_cellsOf] at hb
      have hs : elems[i]? = some elems[i] := List.getElem?_eq_getElem (by omega)
      have hm : elems[i] ∈ elems := List.getElem_mem _
      rw [hs, Option.bind_eq_some_iff] at hb
      obtain ⟨cs, hcs, hy⟩ := hb
      obtain ⟨_, hcl, hcell⟩ := World.cells?_some hcs
      have hwi := hwa _ hm
      obtain ⟨xs, k, _, hxx, _, hxl, hf⟩ := DataW.trod_struct Try.underlying42 hy
      match xs, hxl, cs, hcl, hcell, hf, hxx with
      | [y0, y1, y2, y3, y4], _, [c0, c1, c2, c3, c4], _, hcell, hf, hxx =>
        have t0 := hf 0 _ rfl
        have t1 := hf 1 _ rfl
        have t2 := hf 2 _ rfl
        have t3 := hf 3 _ rfl
        have t4 := hf 4 _ rfl
        simp [s_cellsOf, int_cells] at t0 t1 t2 t3 t4
        obtain ⟨s0, e0, z0, _⟩ := DataW.trod_string Try.underlying9 t0
        obtain ⟨s1, e1, _, _⟩ := DataW.trod_int Try.underlying3 t1
        obtain ⟨s2, e2, _, _⟩ := DataW.trod_int Try.underlying3 t2
        obtain ⟨s3, e3, _, _⟩ := DataW.trod_int Try.underlying3 t3
        obtain ⟨s4, e4, z4, _⟩ := DataW.trod_string Try.underlying9 t4
        simp at e0 e1 e2 e3 e4
        have hd : elems[i].1 = .agg [y0.1, y1.1, y2.1, y3.1, y4.1] := by
          have := congrArg Prod.fst hxx
          simpa using this
        rw [hd] at hwi
        have hw' : (DataW.weightsEach Try.prog [9, 3, 3, 3, 9] [y0.1, y1.1, y2.1, y3.1, y4.1]).all (· ≤ reachBytes) = true := by
          rw [← hwi]
          unfold DataW.weights
          rw [Try.underlying42]
          rfl
        have hz0 := sized_string hw' (j := 0) (t := 9) (bytes := s0.data.toList) rfl (by rw [z0]; rfl)
        rw [data_len] at hz0
        have hz4 := sized_string hw' (j := 4) (t := 9) (bytes := s4.data.toList) rfl (by rw [z4]; rfl)
        rw [data_len] at hz4
        refine ⟨⟨s0, s1, s2, s3, s4⟩, fun j hj => ?_, by unfold reachBytes at hz0; omega, by unfold reachBytes at hz4; omega⟩
        have := hcell j (by simpa using hj)
        rw [this]
        subst e0 e1 e2 e3 e4
        rfl
    obtain ⟨rs, hl, hq⟩ := list_of len each
    refine ⟨rs, ?_, by rw [hl]; exact hwl, fun r hr => ?_⟩
    · rw [hl]
      exact row_of (f := rV) (z := 5) (fun _ => rfl) (by decide) hl (fun i hi j hj => (hq i hi).1 j hj)
    · obtain ⟨i, hi, rfl⟩ := List.getElem_of_mem hr
      exact (hq i hi).2

set_option maxRecDepth 100000 in
set_option maxHeartbeats 1000000 in
/-- An api.Msg as it comes in, and how far it reaches. -/
theorem open_mfar {r : Reach} {b0 : Nat} {v : Value} {d : DataW H} {p : List MemPlace} (hval : Value.okWide Try.prog W r b0 27 v) (h0 : DataW.Trod enc Try.prog W 0 (fun _ => true) true 27 v d p) (hw : (d.weights Try.prog 27).all (· ≤ reachBytes) = true) :
    ∃ (m : Ms) (v0 v1 v2 v3 : Value), v = .agg (msgC m.h v0 v1 v2 v3) ∧ Row W v0 m.qs.length (qC m.qs) ∧ Row W v1 m.an.length (rC m.an) ∧ Row W v2 m.ns.length (rC m.ns) ∧ Row W v3 m.ar.length (rC m.ar) ∧ Fits m := by
  obtain ⟨cs, rfl, hsz⟩ := okWide_struct Try.underlying27 hval
  obtain ⟨fuel, hf⟩ := h0
  obtain ⟨xs, n, _, hx, hl, hlen, hfs⟩ := DataW.trod_struct Try.underlying27 hf
  obtain ⟨l, rfl⟩ : ∃ l : List Value, cs = l.toArray := ⟨cs.toList, by simp⟩
  have hl13 : l.length = 13 := by rw [m_cellsOf] at hsz; simpa using hsz
  match l, hl13 with
  | [c0, c1, c2, c3, c4, c5, c6, c7, c8, c9, c10, c11, c12], _ =>
  match xs, hlen with
  | [y0, y1, y2, y3, y4], _ =>
    have t0 := hfs 0 _ rfl
    have t1 := hfs 1 _ rfl
    have t2 := hfs 2 _ rfl
    have t3 := hfs 3 _ rfl
    have t4 := hfs 4 _ rfl
    simp [head_cells, qs_cellsOf, rs_cellsOf, Value.cells] at t0 t1 t2 t3 t4
    have hd : d = .agg [y0.1, y1.1, y2.1, y3.1, y4.1] := by
      have := congrArg Prod.fst hx
      simpa using this
    rw [hd] at hw
    have hw' : (DataW.weightsEach Try.prog [23, 24, 25, 25, 25] [y0.1, y1.1, y2.1, y3.1, y4.1]).all (· ≤ reachBytes) = true := by
      rw [← hw]
      unfold DataW.weights
      rw [Try.underlying27]
      rfl
    obtain ⟨q0, h1, g1, f1⟩ := open_qfar t1 (weights_all hw' (j := 1) rfl rfl)
    obtain ⟨q1, h2, g2, f2⟩ := open_rfar t2 (weights_all hw' (j := 2) rfl rfl)
    obtain ⟨q2, h3, g3, f3⟩ := open_rfar t3 (weights_all hw' (j := 3) rfl rfl)
    obtain ⟨q3, h4, g4, f4⟩ := open_rfar t4 (weights_all hw' (j := 4) rfl rfl)
    obtain ⟨zs, k, _, _, _, hzl, hz⟩ := DataW.trod_struct Try.underlying23 t0
    match zs, hzl with
    | [z0, z1, z2, z3, z4, z5, z6, z7, z8], _ =>
      have u0 := hz 0 _ rfl
      have u1 := hz 1 _ rfl
      have u2 := hz 2 _ rfl
      have u3 := hz 3 _ rfl
      have u4 := hz 4 _ rfl
      have u5 := hz 5 _ rfl
      have u6 := hz 6 _ rfl
      have u7 := hz 7 _ rfl
      have u8 := hz 8 _ rfl
      simp [bool_cells, int_cells] at u0 u1 u2 u3 u4 u5 u6 u7 u8
      obtain ⟨id, e0, x0, _⟩ := DataW.trod_int Try.underlying3 u0
      obtain ⟨qr, e1, x1⟩ := DataW.trod_bool Try.underlying4 u1
      obtain ⟨op, e2, x2, _⟩ := DataW.trod_int Try.underlying3 u2
      obtain ⟨aa, e3, x3⟩ := DataW.trod_bool Try.underlying4 u3
      obtain ⟨tc, e4, x4⟩ := DataW.trod_bool Try.underlying4 u4
      obtain ⟨rd, e5, x5⟩ := DataW.trod_bool Try.underlying4 u5
      obtain ⟨ra, e6, x6⟩ := DataW.trod_bool Try.underlying4 u6
      obtain ⟨z, e7, x7, _⟩ := DataW.trod_int Try.underlying3 u7
      obtain ⟨rc, e8, x8, _⟩ := DataW.trod_int Try.underlying3 u8
      simp at e0 e1 e2 e3 e4 e5 e6 e7 e8
      subst e0 e1 e2 e3 e4 e5 e6 e7 e8
      exact ⟨⟨⟨id, qr, op, aa, tc, rd, ra, z, rc⟩, q0, q1, q2, q3⟩, c9, c10, c11, c12, rfl, h1, h2, h3, h4, ⟨g1, g2, g3, g4, f1, f2, f3, f4⟩⟩
end

end Go.Proofs.Ytnecdpieoipjdaa
