/- StoreActs: a store under any calls answers as the document's does, shares no memory with what is handed in or out, and changes no argument. No condition but the form's own reach. -/
import Derived.Test.YtcmhjlflgedcdaaXSuE
import Derived.Test.YtcmhjlflgedcdaaXInC
import Derived.Deep.RegionHeld3
namespace Go.Proofs.Ytcmhjlflgedcdaa.storeActs
open Go.ChangeShapes Go.WideShapes Go.ChangeAt Go.RowKit
open Pl

/-- The law's own variables of a round, and the row that it lends. -/
structure BX (w : World) (A X g N cap : Nat) (CA CX : Array Value) (ds : List ByteArray) : Prop where
  a : Blk w A CA 38
  x : Blk w X CX 36
  l : Lies w g (tC ds ++ tC mkT)
  o : w.ownsRow 0 9 1 (.slice (some ⟨g, 0, none⟩) N cap) N (tC ds)
theorem BX.below {w w' : World} {A X g N cap : Nat} {CA CX : Array Value} {ds : List ByteArray} (h : BX w A X g N cap CA CX ds) (hb : Below w.heap.size w w') : BX w' A X g N cap CA CX ds := ⟨h.a.below hb, h.x.below hb, h.l.below hb, own_past h.o hb⟩
theorem BX.kept {w w' : World} {A X g N cap : Nat} {CA CX : Array Value} {ds : List ByteArray} {T : TypeId} (h : BX w A X g N cap CA CX ds) (hk : ∀ k C t, Blk w k C t → t ≠ T → Blk w' k C t) (h1 : 38 ≠ T) (h2 : 36 ≠ T) (h3 : 9 ≠ T) : BX w' A X g N cap CA CX ds := by
  obtain ⟨cur, hc⟩ := own_cells h.o rfl
  refine ⟨hk _ _ _ h.a h1, hk _ _ _ h.x h2, fun j u hu => ?_, ?_⟩
  · have := h.l j u hu
    rw [hc.cell] at this
    rw [(hk _ _ _ hc h3).cell]
    exact this
  · rcases h.o.2 with ⟨e, _⟩ | ⟨g', cap', cur', e, hb, hg, rest⟩
    · cases e
    · exact ⟨h.o.1, .inr ⟨g', cap', cur', e, hb, hk _ _ _ hg h3, rest⟩⟩
theorem BX.turn {w w' : World} {A X g N cap : Nat} {CA CX : Array Value} {ds : List ByteArray} {S : Nat → Prop} (h : BX w A X g N cap CA CX ds) (T : Turn S w w') (h1 : ¬ S A) (h2 : ¬ S X) (h3 : ¬ S g) : BX w' A X g N cap CA CX ds :=
  ⟨T.blk h.a h1, T.blk h.x h2, h.l.turn T h3, T.row h.o (fun k hk => by simp [Value.ownBlock] at hk; subst hk; exact h3)⟩
theorem kept_any {N g cap c : Nat} {y : Option Addr} {ds : List ByteArray} (hN : N = ds.length) {w : World} (hl : Lies w g (tC ds ++ tC mkT)) (hcap : N + 2 ≤ cap) (h2 : Row w (.slice y N c) ds.length (tC ds)) (hn : ds.length ≤ 8796093022000) :
    Calls Try.prog 16 #[.slice (some ⟨g, 0, none⟩) N cap, .slice y N c] w fun e w' => e = .returned (.bool true) ∧ Below w.heap.size w w' := by
  subst hN
  exact keptT_any g cap _ ds w hl hcap h2 hn
theorem sa_all {w0 w : World} {gs gr most : Nat} {mb : Option Nat} {L : List (En × Value)} {V : Value} {M : List (En × Value)} {F G : List En} (h : SA w0 w gs gr most mb L V M F G) :
    Calls Try.prog 22 #[.pointer (some ⟨gs, 0, none⟩)] w fun e w' => ∃ v Ma, e = .returned v ∧ ES w.heap.size w' v Ma ∧ fstL Ma = allP F ∧ Below w.heap.size w w' := by
  refine (all_any h.lw.st (by have := h.lw.pos; rw [← h.lw.fs] at this; exact this.pairs)).mono ?_
  rintro e w' ⟨v, Ma, he, es, hf, hb⟩
  exact ⟨v, Ma, he, es, by rw [hf, h.lw.fs], hb⟩
theorem sa_rall {w0 w : World} {gs gr most : Nat} {mb : Option Nat} {L : List (En × Value)} {V : Value} {M : List (En × Value)} {F G : List En} (h : SA w0 w gs gr most mb L V M F G) :
    Calls Try.prog 23 #[.pointer (some ⟨gr, 0, none⟩)] w fun e w' => ∃ v Ma, e = .returned v ∧ ES w.heap.size w' v Ma ∧ fstL Ma = allP G ∧ Below w.heap.size w w' := by
  refine (rall_any h.rs).mono ?_
  rintro e w' ⟨v, Ma, he, es, hf, hb⟩
  exact ⟨v, Ma, he, es, by rw [hf, h.fs], hb⟩
theorem sa_same {w0 w w1 : World} {gs gr most B1 B2 : Nat} {mb : Option Nat} {L : List (En × Value)} {V v u : Value} {M Ma Mb : List (En × Value)} {F : List En} (h : SA w0 w gs gr most mb L V M F F) (h1 : ES B1 w1 v Ma) (h2 : ES B2 w1 u Mb) (e1 : fstL Ma = allP F) (e2 : fstL Mb = allP F) :
    Calls Try.prog 21 #[v, u] w1 fun e w' => e = .returned (.bool true) ∧ Below w1.heap.size w1 w' := by
  have hl : Ma.length = M.length := by rw [← fst_len, e1, all_len, ← h.fs, fst_len]
  refine sameEs_yes h1 h2 (by rw [e1, e2]) (by rw [hl]; exact Nat.le_trans h.rs.len h.rs.m2) (fun p hp => ?_)
  have h3 : p.1 ∈ allP F := by rw [← e1]; exact List.mem_map.2 ⟨p, hp, rfl⟩
  have h4 := (all_perm F).mem_iff.1 h3
  rw [← h.fs] at h4
  obtain ⟨q, hq, e⟩ := List.mem_map.1 h4
  rw [← e]
  exact (h.rs.ok q hq).len
theorem spoil_any {N : Nat} {y : Option Addr} {cap B : Nat} {ds : List ByteArray} {w : World} (hN : N = ds.length) (ho : w.ownsRow B 9 1 (.slice y N cap) N (tC ds)) (hl : ds.length ≤ 8796093022000) (hs : ∀ d ∈ ds, d.size ≤ 140737488351232) :
    Calls Try.prog 17 #[.slice y N cap] w fun e w' => e = .returned (.tuple #[]) ∧ Turn (fun k => (Value.slice y N cap).ownBlock = some k) w w' := by
  subst hN
  exact spoilT_far ho (textsF_tC hs) hl

set_option maxRecDepth 20000 in
set_option maxHeartbeats 8000000 in
theorem walk (most : Int) (v : Value) (acts : List Ac) (wf : (Lit.int .i64 most).wf = true) (hlen : acts.length ≤ 8796093022000) (w : World) (hr : Row w v acts.length (acC acts)) (hok : ∀ p ∈ acts, AcOk w p) :
    Calls Try.prog 3 #[.int .i64 most, v] w fun e w' => e = .returned (.bool true) ∧ Below w.heap.size w w' := by
  have _ := wf
  have hlen := hlen
  obtain ⟨na, hna⟩ : ∃ na, na = acts.length := ⟨_, rfl⟩
  obtain ⟨xv, cv, hv⟩ := row_slice hr
  rw [← hna] at hv hlen
  subst hv
  have HNA : Hid (na = acts.length) := hna
  have HR : Hid (Row w (.slice xv na cv) acts.length (acC acts)) := hr
  have HOK : Hid (∀ p ∈ acts, AcOk w p) := hok
  clear hr hna hok wf
  by_cases hmm : most < 1 ∨ 256 < most
  · go_enter Try.func3, Try.ntmps3
    go_wp2_with (first
      | (go_at_call 11; refine (num_any _ _).mono ?_; rintro e w' ⟨rfl, hw⟩; obtain rfl := hw.symm)
      | (go_at_call 9; go_must (refine (new_no most _ hmm).mono ?_); rintro e w' ⟨rfl, hw⟩; obtain rfl := hw.symm)
      | (go_at_call 10; go_must (refine (rnew_no most _ hmm).mono ?_); rintro e w' ⟨rfl, hw⟩; obtain rfl := hw.symm)
      | (go_at_call 12; go_must (refine (awake_any _).mono ?_); rintro e w1 ⟨rfl, b1⟩))
    go_ret
    exact ⟨rfl, b1⟩
  · obtain ⟨m, rfl⟩ : ∃ m : Nat, most = (m : Int) := ⟨most.toNat, by omega⟩
    have hm1 : 1 ≤ m := by omega
    have hm2 : m ≤ 256 := by omega
    clear hmm
    go_enter Try.func3, Try.ntmps3
    go_wp2_with (first
      | (go_at_call 11; refine (num_any _ _).mono ?_; rintro e w' ⟨rfl, hw⟩; obtain rfl := hw.symm)
      | (go_at_call 9; go_must (refine (lw_new (Below.refl w.heap.size w) m hm1 hm2).mono ?_); rintro e w1 ⟨gs, rfl, lw1⟩)
      | (go_at_call 10; go_must (refine (rnew_yes m w.heap.size _ hm1 hm2 lw1.bel.size).mono ?_); rintro e w2 ⟨gr, rfl, rs2, hg2, b2⟩; have hsz1 := lw1.bel.size; have HS0 : Hid (SA w w2 gs gr m none [] (.slice none 0 0) [] [] []) := ⟨lw1.below b2, rs2, rfl, (by omega)⟩; clear lw1 rs2 b2))
    go_loopw [9] (fun iv wr => ∃ (j : Nat) (mb : Option Nat) (L : List (En × Value)) (V : Value) (M : List (En × Value)) (F : List En), iv = .int .i64 (j : Int) ∧ j ≤ na ∧ j ≤ 80 ∧ Hid (SA w wr gs gr m mb L V M F F)) (fun i _ => na - (intOf i).toNat)
    case atStart => exact ⟨0, none, [], .slice none 0 0, [], [], rfl, Nat.zero_le _, Nat.zero_le _, HS0⟩
    case round =>
      clear HS0
      obtain ⟨j, mb, L, V, M, F, rfl, hjn, hj8, HS⟩ := hrel
      by_cases hlt : j < na ∧ j < 80
      · obtain ⟨hj, h8⟩ := hlt
        have hj' : (j : Int) < (na : Int) := by omega
        have h8' : (j : Int) < 80 := by omega
        have hjp : j < acts.length := by rw [← HNA.out]; exact hj
        obtain ⟨gp, op, cp, hx, hc⟩ := row_at HR.out (by omega)
        simp only [Value.slice.injEq] at hx
        obtain ⟨rfl, -, rfl⟩ := hx
        obtain ⟨p, hp⟩ : ∃ p, p = acts[j] := ⟨_, rfl⟩
        have hpo : AcOk w p := by rw [hp]; exact HOK.out _ (List.getElem_mem _)
        have hce : ∀ i, i < 9 → wr.cell? ⟨gp, op + j * 9 + i, none⟩ = (acV p)[i]? := fun i hi => by
          cases hu : (acV p)[i]? with
          | none => rw [List.getElem?_eq_none_iff] at hu; simp [acV] at hu; omega
          | some z =>
            have := hc (j * 9 + i) z (by rw [acC_at hjp i hi, ← hp]; exact hu)
            rw [Nat.add_assoc, HS.out.lw.bel.cell (World.block_lt_of_cell? _ _ this)]
            exact this
        have HROW0 : ∀ w', Below w.heap.size w w' → Row w' p.d p.e.ds.length (tC p.e.ds) := fun w' hw' => hpo.row.below hw'
        have c0 := hce 0 (by decide)
        have c1 := hce 1 (by decide)
        have c2 := hce 2 (by decide)
        have c3 := hce 3 (by decide)
        have c4 := hce 4 (by decide)
        have c5 := hce 5 (by decide)
        have c6 := hce 6 (by decide)
        have c7 := hce 7 (by decide)
        have c8 := hce 8 (by decide)
        rw [Nat.add_zero] at c0
        obtain ⟨y, c, hpd⟩ := row_slice hpo.row
        have HNM : Hid (p.e.n.size ≤ maxLen) := hpo.nam
        have HAS : Hid (p.n.size ≤ maxLen) := hpo.ask
        have HTY : Hid ((Lit.int .i64 p.t).wf = true) := hpo.typ
        have HLN : Hid (p.e.ds.length ≤ 8796093022000) := hpo.len
        have HSZ : Hid (∀ d ∈ p.e.ds, d.size ≤ 140737488351232) := hpo.siz
        clear hce hc hp hpo hjp
        obtain ⟨⟨n, t, l, ds, r, u⟩, pd, now, an, at2⟩ := p
        simp only at hpd HROW0 HNM HAS HTY HLN HSZ
        obtain ⟨N, hN⟩ : ∃ N, N = ds.length := ⟨_, rfl⟩
        have HN : Hid (N = ds.length) := hN
        rw [← hN] at hpd
        subst hpd
        have HROW : Hid (∀ w', Below w.heap.size w w' → Row w' (.slice y N c) ds.length (tC ds)) := HROW0
        have HLEND : Hid (∀ w', Below w.heap.size w w' → Calls Try.prog 13 #[.slice y N c] w' fun e w'' => ∃ g cap, e = .returned (.slice (some ⟨g, 0, none⟩) N cap) ∧ N + 2 ≤ cap ∧ Lies w'' g (tC ds ++ tC mkT) ∧ w''.ownsRow w'.heap.size 9 1 (.slice (some ⟨g, 0, none⟩) N cap) N (tC ds) ∧ Below w'.heap.size w' w'') := fun w' hw' => by
          have := lendT_own _ ds w' (HROW.out w' hw') HLN.out
          rw [← hN] at this
          exact this
        simp only [acV, List.getElem?_cons_succ, List.getElem?_cons_zero] at c0 c1 c2 c3 c4 c5 c6 c7 c8
        obtain ⟨F2, hF2⟩ : ∃ F2, putP m F ⟨n, t, l, ds, r, u⟩ now = F2 := ⟨_, rfl⟩
        have HF2 : Hid (putP m F ⟨n, t, l, ds, r, u⟩ now = F2) := hF2
        obtain ⟨ga, hga⟩ : ∃ ga, gE (getP F2 an at2 now) now = ga := ⟨_, rfl⟩
        have HGA : Hid (gE (getP F2 an at2 now) now = ga) := hga
        obtain ⟨xg, hxg⟩ : ∃ xg, gX (getP F2 an at2 now) = xg := ⟨_, rfl⟩
        have HXG : Hid (gX (getP F2 an at2 now) = xg) := hxg
        obtain ⟨gN, hgN⟩ : ∃ gN, gN = ga.ds.length := ⟨_, rfl⟩
        have HGN : Hid (gN = ga.ds.length) := hgN
        have HGET : Hid (∀ {w' : World} {mb' : Option Nat} {L' : List (En × Value)} {V' : Value} {M' : List (En × Value)} {G' : List En}, SA w w' gs gr m mb' L' V' M' F2 G' → Calls Try.prog 18 #[.pointer (some ⟨gs, 0, none⟩), .string an, .int .i64 at2, .int .i64 now] w' fun e w'' => ∃ y c, e = .returned (.tuple #[.agg #[.string ga.n, .int .i64 ga.t, .int .i64 ga.l, .slice y gN c], .int .i64 ga.r, .int .i64 xg]) ∧ w''.ownsRow w'.heap.size 9 1 (.slice y gN c) gN (tC ga.ds) ∧ Below w'.heap.size w' w'') := fun hh => by
          have := sa_get hh an at2 now HAS.out HTY.out ga xg hga hxg
          rw [← hgN] at this
          exact this
        have HRGET : Hid (∀ {w' : World} {mb' : Option Nat} {L' : List (En × Value)} {V' : Value} {M' : List (En × Value)} {F' : List En}, SA w w' gs gr m mb' L' V' M' F' F2 → Calls Try.prog 19 #[.pointer (some ⟨gr, 0, none⟩), .string an, .int .i64 at2, .int .i64 now] w' fun e w'' => ∃ y c, e = .returned (.tuple #[.agg #[.string ga.n, .int .i64 ga.t, .int .i64 ga.l, .slice y gN c], .int .i64 ga.r, .int .i64 xg]) ∧ w''.ownsRow w'.heap.size 9 1 (.slice y gN c) gN (tC ga.ds) ∧ Below w'.heap.size w' w'') := fun hh => by
          have := sa_rget hh an at2 now HAS.out ga xg hga hxg
          rw [← hgN] at this
          exact this
        have HGT : Hid (∀ {w' : World} {mb' : Option Nat} {L' : List (En × Value)} {V' : Value} {M' : List (En × Value)} {F' : List En}, SA w w' gs gr m mb' L' V' M' F' F2 → ga.ds.length ≤ 8796093022000 ∧ ∀ d ∈ ga.ds, d.size ≤ 140737488351232) := fun hh => by
          have := get_texts hh.rs an at2 now
          rw [hh.fs, hga] at this
          exact this
        have HSAME : Hid (∀ {w' : World} {y1 y2 : Option Addr} {c1 c2 : Nat}, ga.ds.length ≤ 8796093022000 → Row w' (.slice y1 gN c1) gN (tC ga.ds) → Row w' (.slice y2 gN c2) gN (tC ga.ds) → Calls Try.prog 20 #[.agg #[.string ga.n, .int .i64 ga.t, .int .i64 ga.l, .slice y1 gN c1], .agg #[.string ga.n, .int .i64 ga.t, .int .i64 ga.l, .slice y2 gN c2]] w' fun e w'' => e = .returned (.bool true) ∧ Below w'.heap.size w' w'') := fun h0 h1 h2 => by
          rw [hgN] at h1 h2 ⊢
          exact sameS_any _ _ _ _ _ _ _ _ _ _ _ h1 h2 (by unfold maxLen; omega) (by unfold maxLen; omega) true (by simp)
        clear hN HROW0 hF2 hga hxg hgN
        obtain ⟨gn, gt, gl, gds, gk, gu⟩ := ga
        simp only at HGET HRGET HGT HSAME HGN
        have hgk : (gk == gk) = true := by simp
        have hxx : (xg == xg) = true := by simp
        have hsw := HS.out.lw.bel.size
        have HX0 : Hid (Below wr.heap.size wr ((wr.alloc (.cells #[.string n, .int .i64 t, .int .i64 l, .slice y N c, .int .i64 r, .int .i64 u, .int .i64 now, .string an, .int .i64 at2] 38)).alloc (.cells #[.string n, .int .i64 t, .int .i64 l, .slice y N c, .int .i64 r, .int .i64 u] 36))) := lay (lay (Below.refl _ _) _) _
        have HKA : Hid (Blk ((wr.alloc (.cells #[.string n, .int .i64 t, .int .i64 l, .slice y N c, .int .i64 r, .int .i64 u, .int .i64 now, .string an, .int .i64 at2] 38)).alloc (.cells #[.string n, .int .i64 t, .int .i64 l, .slice y N c, .int .i64 r, .int .i64 u] 36)) wr.heap.size #[.string n, .int .i64 t, .int .i64 l, .slice y N c, .int .i64 r, .int .i64 u, .int .i64 now, .string an, .int .i64 at2] 38) := (Blk.new wr #[.string n, .int .i64 t, .int .i64 l, .slice y N c, .int .i64 r, .int .i64 u, .int .i64 now, .string an, .int .i64 at2] 38).alloc _
        have HKX : Hid (Blk ((wr.alloc (.cells #[.string n, .int .i64 t, .int .i64 l, .slice y N c, .int .i64 r, .int .i64 u, .int .i64 now, .string an, .int .i64 at2] 38)).alloc (.cells #[.string n, .int .i64 t, .int .i64 l, .slice y N c, .int .i64 r, .int .i64 u] 36)) (wr.heap.size + 1) #[.string n, .int .i64 t, .int .i64 l, .slice y N c, .int .i64 r, .int .i64 u] 36) := by have := Blk.new (wr.alloc (.cells #[.string n, .int .i64 t, .int .i64 l, .slice y N c, .int .i64 r, .int .i64 u, .int .i64 now, .string an, .int .i64 at2] 38)) #[.string n, .int .i64 t, .int .i64 l, .slice y N c, .int .i64 r, .int .i64 u] 36; rw [World.size_alloc] at this; exact this
        have HX2 : Hid (((wr.alloc (.cells #[.string n, .int .i64 t, .int .i64 l, .slice y N c, .int .i64 r, .int .i64 u, .int .i64 now, .string an, .int .i64 at2] 38)).alloc (.cells #[.string n, .int .i64 t, .int .i64 l, .slice y N c, .int .i64 r, .int .i64 u] 36)).heap.size = wr.heap.size + 2) := by unfold Hid; rw [World.size_alloc, World.size_alloc]
        cases hmay : mayE ⟨n, t, l, ds, r, u⟩ now with
        | false =>
          have HE : Hid (errP ⟨n, t, l, ds, r, u⟩ now = 1300) := by unfold Hid errP; rw [hmay]; rfl
          clear hmay
          have tk1 : True := trivial
          have tk2 : True := trivial
          go_wp2_with (first
            | (go_at_call 13; go_must (refine (HLEND.out _ (next HS.out.lw.bel HX0.out)).mono ?_); rintro e w1 ⟨g, cap, rfl, hcap, hl1, ho1, b1⟩; have hg1 := (ho1.lt g rfl).1; rw [HX2.out] at hg1; have BX1 : BX w1 wr.heap.size (wr.heap.size + 1) g N cap #[.string n, .int .i64 t, .int .i64 l, .slice y N c, .int .i64 r, .int .i64 u, .int .i64 now, .string an, .int .i64 at2] #[.string n, .int .i64 t, .int .i64 l, .slice y N c, .int .i64 r, .int .i64 u] ds := ⟨HKA.out.below b1, HKX.out.below b1, hl1, own_base ho1 (Nat.zero_le _)⟩; have SA1 := HS.out.below (next HX0.out b1); have T2 : Turn (fun k => k = wr.heap.size + 1) w1 (w1.setCell ⟨wr.heap.size + 1, 3, none⟩ (.slice (some ⟨g, 0, none⟩) N cap)) := Turn.of_set (S := fun k => k = wr.heap.size + 1) w1 (p := ⟨wr.heap.size + 1, 3, none⟩) rfl _; have HA2 : Hid (SA w (w1.setCell ⟨wr.heap.size + 1, 3, none⟩ (.slice (some ⟨g, 0, none⟩) N cap)) gs gr m mb L V M F F) := SA1.own T2 (fun k hk => ⟨(by omega), HS.out.fresh (by omega)⟩); have HB2 : Hid (BX (w1.setCell ⟨wr.heap.size + 1, 3, none⟩ (.slice (some ⟨g, 0, none⟩) N cap)) wr.heap.size (wr.heap.size + 1) g N cap #[.string n, .int .i64 t, .int .i64 l, .slice y N c, .int .i64 r, .int .i64 u, .int .i64 now, .string an, .int .i64 at2] #[.string n, .int .i64 t, .int .i64 l, .slice (some ⟨g, 0, none⟩) N cap, .int .i64 r, .int .i64 u] ds) := ⟨T2.blk BX1.a (by omega), BX1.x.set 3 _, hl1.turn T2 (by omega), T2.row BX1.o (fun k hk => by simp [Value.ownBlock] at hk; omega)⟩; have HP2 : Hid (w.heap.size ≤ g ∧ apart gs gr mb L V M g) := ⟨(by omega), HS.out.fresh (by omega)⟩; have HRW : Hid (Row (w1.setCell ⟨wr.heap.size + 1, 3, none⟩ (.slice (some ⟨g, 0, none⟩) N cap)) (.slice (some ⟨g, 0, none⟩) N cap) ds.length (tC ds)) := (by have := Row.of_own HB2.out.o; rw [HN.out] at this ⊢; exact this); have q3 : w1.cell? ⟨wr.heap.size + 1, 3, none⟩ = some (.slice y N c) := BX1.x.cell 3; have q3f := BX1.x.frozen 3; have m0 : (w1.setCell ⟨wr.heap.size + 1, 3, none⟩ (.slice (some ⟨g, 0, none⟩) N cap)).cell? ⟨wr.heap.size + 1, 0, none⟩ = some (.string n) := HB2.out.x.cell 0; have m1 : (w1.setCell ⟨wr.heap.size + 1, 3, none⟩ (.slice (some ⟨g, 0, none⟩) N cap)).cell? ⟨wr.heap.size + 1, 1, none⟩ = some (.int .i64 t) := HB2.out.x.cell 1; have m2 : (w1.setCell ⟨wr.heap.size + 1, 3, none⟩ (.slice (some ⟨g, 0, none⟩) N cap)).cell? ⟨wr.heap.size + 1, 2, none⟩ = some (.int .i64 l) := HB2.out.x.cell 2; have m3 : (w1.setCell ⟨wr.heap.size + 1, 3, none⟩ (.slice (some ⟨g, 0, none⟩) N cap)).cell? ⟨wr.heap.size + 1, 3, none⟩ = some (.slice (some ⟨g, 0, none⟩) N cap) := HB2.out.x.cell 3; have m4 : (w1.setCell ⟨wr.heap.size + 1, 3, none⟩ (.slice (some ⟨g, 0, none⟩) N cap)).cell? ⟨wr.heap.size + 1, 4, none⟩ = some (.int .i64 r) := HB2.out.x.cell 4; have m5 : (w1.setCell ⟨wr.heap.size + 1, 3, none⟩ (.slice (some ⟨g, 0, none⟩) N cap)).cell? ⟨wr.heap.size + 1, 5, none⟩ = some (.int .i64 u) := HB2.out.x.cell 5; have k6 : (w1.setCell ⟨wr.heap.size + 1, 3, none⟩ (.slice (some ⟨g, 0, none⟩) N cap)).cell? ⟨wr.heap.size, 6, none⟩ = some (.int .i64 now) := HB2.out.a.cell 6; clear hl1 ho1 b1 BX1 SA1 T2)
            | (go_at_call 14; go_must (refine (sa_put HA2.out n t l r u now (.slice (some ⟨g, 0, none⟩) N cap) ds HNM.out HRW.out HLN.out HSZ.out 1300 HE.out F2 HF2.out).mono ?_); rintro e w3 ⟨rfl, mb3, L3, sa3, kb3, ap3, hs3⟩; have HA3 : Hid (SA w w3 gs gr m mb3 L3 V M F2 F) := sa3; have HB3 : Hid (BX w3 wr.heap.size (wr.heap.size + 1) g N cap #[.string n, .int .i64 t, .int .i64 l, .slice y N c, .int .i64 r, .int .i64 u, .int .i64 now, .string an, .int .i64 at2] #[.string n, .int .i64 t, .int .i64 l, .slice (some ⟨g, 0, none⟩) N cap, .int .i64 r, .int .i64 u] ds) := HB2.out.kept kb3 (by decide) (by decide) (by decide); have HP3 : Hid (w.heap.size ≤ g ∧ apart gs gr mb3 L3 V M g) := ⟨HP2.out.1, ap3 g (HB2.out.o.lt g rfl).2 HP2.out.2⟩; have a0 : (w3).cell? ⟨wr.heap.size, 0, none⟩ = some (.string n) := HB3.out.a.cell 0; have a1 : (w3).cell? ⟨wr.heap.size, 1, none⟩ = some (.int .i64 t) := HB3.out.a.cell 1; have a2 : (w3).cell? ⟨wr.heap.size, 2, none⟩ = some (.int .i64 l) := HB3.out.a.cell 2; have a3 : (w3).cell? ⟨wr.heap.size, 3, none⟩ = some (.slice y N c) := HB3.out.a.cell 3; have a4 : (w3).cell? ⟨wr.heap.size, 4, none⟩ = some (.int .i64 r) := HB3.out.a.cell 4; have a5 : (w3).cell? ⟨wr.heap.size, 5, none⟩ = some (.int .i64 u) := HB3.out.a.cell 5; have a6 : (w3).cell? ⟨wr.heap.size, 6, none⟩ = some (.int .i64 now) := HB3.out.a.cell 6; have b3 : w3.cell? ⟨wr.heap.size + 1, 3, none⟩ = some (.slice (some ⟨g, 0, none⟩) N cap) := HB3.out.x.cell 3; clear sa3 kb3 ap3 hs3 HA2 HB2 HP2 HRW q3 q3f m0 m1 m2 m3 m4 m5 k6))
          go_region_held3 (fun z => z.cell? ⟨wr.heap.size, 0, none⟩ = some (.string n) ∧ z.cell? ⟨wr.heap.size, 1, none⟩ = some (.int .i64 t) ∧ z.cell? ⟨wr.heap.size, 2, none⟩ = some (.int .i64 l) ∧ z.cell? ⟨wr.heap.size, 3, none⟩ = some (.slice y N c) ∧ z.cell? ⟨wr.heap.size, 4, none⟩ = some (.int .i64 r) ∧ z.cell? ⟨wr.heap.size, 5, none⟩ = some (.int .i64 u) ∧ z.cell? ⟨wr.heap.size, 6, none⟩ = some (.int .i64 now) ∧ z.cell? ⟨wr.heap.size + 1, 3, none⟩ = some (.slice (some ⟨g, 0, none⟩) N cap)) (first | (simp only [World.cell?_drew, a0, a1, a2, a3, a4, a5, a6, b3, and_self]; done) | (simp only [d0, d1, d2, d3, d4, d5, d6, d7, and_self]; done) | (simp only [f0, f1, f2, f3, f4, f5, f6, f7, and_self]; done))
            (first
              | (go_at_call 11; refine (num_any _ _).mono ?_; rintro e w' ⟨rfl, hw'⟩; obtain rfl := hw'.symm)
              | (go_at_call 15; refine (sa_rput (HA3.out.below (Below.refl _ _).drew) n t l r u now y c N ds HN.out HNM.out (HROW.out _ (next HA3.out.lw.bel (Below.refl _ _).drew)) HLN.out HSZ.out 1300 HE.out F2 HF2.out).mono ?_; rintro e w4 ⟨rfl, V4, M4, sa4, kb4, ap4, hs4⟩; have HA4 : Hid (SA w w4 gs gr m mb3 L3 V4 M4 F2 F2) := sa4; have HB4 : Hid (BX w4 wr.heap.size (wr.heap.size + 1) g N cap #[.string n, .int .i64 t, .int .i64 l, .slice y N c, .int .i64 r, .int .i64 u, .int .i64 now, .string an, .int .i64 at2] #[.string n, .int .i64 t, .int .i64 l, .slice (some ⟨g, 0, none⟩) N cap, .int .i64 r, .int .i64 u] ds) := (HB3.out.below (Below.refl _ _).drew).kept kb4 (by decide) (by decide) (by decide); have HP4 : Hid (w.heap.size ≤ g ∧ apart gs gr mb3 L3 V4 M4 g) := ⟨HP3.out.1, ap4 g ((HB3.out.below (Below.refl _ _).drew).o.lt g rfl).2 HP3.out.2⟩; have d0 : (w4).cell? ⟨wr.heap.size, 0, none⟩ = some (.string n) := HB4.out.a.cell 0; have d1 : (w4).cell? ⟨wr.heap.size, 1, none⟩ = some (.int .i64 t) := HB4.out.a.cell 1; have d2 : (w4).cell? ⟨wr.heap.size, 2, none⟩ = some (.int .i64 l) := HB4.out.a.cell 2; have d3 : (w4).cell? ⟨wr.heap.size, 3, none⟩ = some (.slice y N c) := HB4.out.a.cell 3; have d4 : (w4).cell? ⟨wr.heap.size, 4, none⟩ = some (.int .i64 r) := HB4.out.a.cell 4; have d5 : (w4).cell? ⟨wr.heap.size, 5, none⟩ = some (.int .i64 u) := HB4.out.a.cell 5; have d6 : (w4).cell? ⟨wr.heap.size, 6, none⟩ = some (.int .i64 now) := HB4.out.a.cell 6; have d7 : w4.cell? ⟨wr.heap.size + 1, 3, none⟩ = some (.slice (some ⟨g, 0, none⟩) N cap) := HB4.out.x.cell 3; clear sa4 kb4 ap4 hs4)
              | (go_at_call 16; refine (kept_any HN.out HB4.out.l hcap (HROW.out _ HA4.out.lw.bel) HLN.out).mono ?_; rintro e w5 ⟨rfl, b5⟩; have HA5 : Hid (SA w w5 gs gr m mb3 L3 V4 M4 F2 F2) := HA4.out.below b5; have HB5 : Hid (BX w5 wr.heap.size (wr.heap.size + 1) g N cap #[.string n, .int .i64 t, .int .i64 l, .slice y N c, .int .i64 r, .int .i64 u, .int .i64 now, .string an, .int .i64 at2] #[.string n, .int .i64 t, .int .i64 l, .slice (some ⟨g, 0, none⟩) N cap, .int .i64 r, .int .i64 u] ds) := HB4.out.below b5; have f0 : (w5).cell? ⟨wr.heap.size, 0, none⟩ = some (.string n) := HB5.out.a.cell 0; have f1 : (w5).cell? ⟨wr.heap.size, 1, none⟩ = some (.int .i64 t) := HB5.out.a.cell 1; have f2 : (w5).cell? ⟨wr.heap.size, 2, none⟩ = some (.int .i64 l) := HB5.out.a.cell 2; have f3 : (w5).cell? ⟨wr.heap.size, 3, none⟩ = some (.slice y N c) := HB5.out.a.cell 3; have f4 : (w5).cell? ⟨wr.heap.size, 4, none⟩ = some (.int .i64 r) := HB5.out.a.cell 4; have f5 : (w5).cell? ⟨wr.heap.size, 5, none⟩ = some (.int .i64 u) := HB5.out.a.cell 5; have f6 : (w5).cell? ⟨wr.heap.size, 6, none⟩ = some (.int .i64 now) := HB5.out.a.cell 6; have f7 : w5.cell? ⟨wr.heap.size + 1, 3, none⟩ = some (.slice (some ⟨g, 0, none⟩) N cap) := HB5.out.x.cell 3; clear b5))
          clear a0 a1 a2 a3 a4 a5 a6 b3 d0 d1 d2 d3 d4 d5 d6 d7 HA3 HB3 HP3 HA4 HB4
          go_wp2_with (first
            | (go_at_call 17; have _t := tk1; go_must (refine (spoil_any HN.out HB5.out.o HLN.out HSZ.out).mono ?_); rintro e w6 ⟨rfl, T6⟩; have HA6 : Hid (SA w w6 gs gr m mb3 L3 V4 M4 F2 F2) := HA5.out.own T6 (fun k hk => by simp [Value.ownBlock] at hk; subst hk; exact HP4.out); have kA6 : Blk w6 wr.heap.size #[.string n, .int .i64 t, .int .i64 l, .slice y N c, .int .i64 r, .int .i64 u, .int .i64 now, .string an, .int .i64 at2] 38 := T6.blk HB5.out.a (fun hk => by simp [Value.ownBlock] at hk; omega); have HKA6 : Hid (Blk w6 wr.heap.size #[.string n, .int .i64 t, .int .i64 l, .slice y N c, .int .i64 r, .int .i64 u, .int .i64 now, .string an, .int .i64 at2] 38) := kA6; have h6 : w6.cell? ⟨wr.heap.size, 6, none⟩ = some (.int .i64 now) := kA6.cell 6; have h7 : w6.cell? ⟨wr.heap.size, 7, none⟩ = some (.string an) := kA6.cell 7; have h8 : w6.cell? ⟨wr.heap.size, 8, none⟩ = some (.int .i64 at2) := kA6.cell 8; clear T6 kA6 tk1 f0 f1 f2 f3 f4 f5 f6 f7 HA5 HB5 HP4)
            | (go_at_call 18; go_must (refine (HGET.out HA6.out).mono ?_); rintro e w7 ⟨y7, c7, rfl, ho7, b7⟩; have HP7 : Hid (∀ k, (Value.slice y7 gN c7).ownBlock = some k → w.heap.size ≤ k ∧ apart gs gr mb3 L3 V4 M4 k) := (fun k hk => by have h1 := (ho7.lt k hk).1; have h2 := HA6.out.lw.bel.size; exact ⟨Nat.le_trans h2 h1, HA6.out.fresh h1⟩); have HA7 : Hid (SA w (w7.alloc (.cells #[.string gn, .int .i64 gt, .int .i64 gl, .slice y7 gN c7] 34)) gs gr m mb3 L3 V4 M4 F2 F2) := (HA6.out.below b7).below (lay (Below.refl _ _) _); have HO7 : Hid ((w7.alloc (.cells #[.string gn, .int .i64 gt, .int .i64 gl, .slice y7 gN c7] 34)).ownsRow 0 9 1 (.slice y7 gN c7) gN (tC gds)) := own_base (ho7.alloc _) (Nat.zero_le _); have HKP : Hid (Blk (w7.alloc (.cells #[.string gn, .int .i64 gt, .int .i64 gl, .slice y7 gN c7] 34)) w7.heap.size #[.string gn, .int .i64 gt, .int .i64 gl, .slice y7 gN c7] 34) := Blk.new w7 _ _; have i6 : ∀ o, (w7.alloc o).cell? ⟨wr.heap.size, 6, none⟩ = some (.int .i64 now) := (fun o => ((HKA6.out.below b7).alloc o).cell 6); have i7 : ∀ o, (w7.alloc o).cell? ⟨wr.heap.size, 7, none⟩ = some (.string an) := (fun o => ((HKA6.out.below b7).alloc o).cell 7); have i8 : ∀ o, (w7.alloc o).cell? ⟨wr.heap.size, 8, none⟩ = some (.int .i64 at2) := (fun o => ((HKA6.out.below b7).alloc o).cell 8); clear ho7 b7 h6 h7 h8)
            | (go_at_call 19; go_must (refine (HRGET.out HA7.out).mono ?_); rintro e w8 ⟨y8, c8, rfl, ho8, b8⟩; have HA8 : Hid (SA w (w8.alloc (.cells #[.string gn, .int .i64 gt, .int .i64 gl, .slice y8 gN c8] 34)) gs gr m mb3 L3 V4 M4 F2 F2) := (HA7.out.below b8).below (lay (Below.refl _ _) _); have HO8 : Hid ((w8.alloc (.cells #[.string gn, .int .i64 gt, .int .i64 gl, .slice y8 gN c8] 34)).ownsRow 0 9 1 (.slice y7 gN c7) gN (tC gds)) := own_past (own_past HO7.out b8) (lay (Below.refl _ _) _); have HR8 : Hid (Row (w8.alloc (.cells #[.string gn, .int .i64 gt, .int .i64 gl, .slice y8 gN c8] 34)) (.slice y8 gN c8) gN (tC gds)) := Row.of_own (ho8.alloc _); have HKP8 : Hid (Blk (w8.alloc (.cells #[.string gn, .int .i64 gt, .int .i64 gl, .slice y8 gN c8] 34)) w7.heap.size #[.string gn, .int .i64 gt, .int .i64 gl, .slice y7 gN c7] 34) := (HKP.out.below b8).alloc _; have j0 : (w8.alloc (.cells #[.string gn, .int .i64 gt, .int .i64 gl, .slice y8 gN c8] 34)).cell? ⟨w7.heap.size, 0, none⟩ = some (.string gn) := HKP8.out.cell 0; have j1 : (w8.alloc (.cells #[.string gn, .int .i64 gt, .int .i64 gl, .slice y8 gN c8] 34)).cell? ⟨w7.heap.size, 1, none⟩ = some (.int .i64 gt) := HKP8.out.cell 1; have j2 : (w8.alloc (.cells #[.string gn, .int .i64 gt, .int .i64 gl, .slice y8 gN c8] 34)).cell? ⟨w7.heap.size, 2, none⟩ = some (.int .i64 gl) := HKP8.out.cell 2; have j3 : (w8.alloc (.cells #[.string gn, .int .i64 gt, .int .i64 gl, .slice y8 gN c8] 34)).cell? ⟨w7.heap.size, 3, none⟩ = some (.slice y7 gN c7) := HKP8.out.cell 3; clear ho8 b8 i6 i7 i8 HA7 HO7 HKP)
            | (go_at_call 20; go_must (refine (HSAME.out (HGT.out HA8.out).1 (Row.of_own HO8.out) HR8.out).mono ?_); rintro e w9 ⟨rfl, b9⟩; have HA9 : Hid (SA w w9 gs gr m mb3 L3 V4 M4 F2 F2) := HA8.out.below b9; have HO9 : Hid (w9.ownsRow 0 9 1 (.slice y7 gN c7) gN (tC gds)) := own_past HO8.out b9; have HKP9 : Hid (Blk w9 w7.heap.size #[.string gn, .int .i64 gt, .int .i64 gl, .slice y7 gN c7] 34) := HKP8.out.below b9; clear b9 j0 j1 j2 j3 HA8 HO8 HR8 HKP8)
            | (go_at_call 11; refine (num_any _ _).mono ?_; rintro e w' ⟨rfl, hw⟩; obtain rfl := hw.symm)
            | (go_at_call 22; go_must (refine (sa_all HA9.out).mono ?_); rintro e wa ⟨va, Ma, rfl, esa, hfa, ba⟩; have HAA : Hid (SA w wa gs gr m mb3 L3 V4 M4 F2 F2) := HA9.out.below ba; have HOA : Hid (wa.ownsRow 0 9 1 (.slice y7 gN c7) gN (tC gds)) := own_past HO9.out ba; have HKPA : Hid (Blk wa w7.heap.size #[.string gn, .int .i64 gt, .int .i64 gl, .slice y7 gN c7] 34) := HKP9.out.below ba; have HMA : Hid (ES w9.heap.size wa va Ma ∧ fstL Ma = allP F2) := ⟨esa, hfa⟩; clear ba esa hfa HA9 HO9 HKP9)
            | (go_at_call 23; go_must (refine (sa_rall HAA.out).mono ?_); rintro e wb ⟨vb, Mb, rfl, esb, hfb, bb⟩; have HAB : Hid (SA w wb gs gr m mb3 L3 V4 M4 F2 F2) := HAA.out.below bb; have HOB : Hid (wb.ownsRow 0 9 1 (.slice y7 gN c7) gN (tC gds)) := own_past HOA.out bb; have HKPB : Hid (Blk wb w7.heap.size #[.string gn, .int .i64 gt, .int .i64 gl, .slice y7 gN c7] 34) := HKPA.out.below bb; have HMB : Hid (ES wa.heap.size wb vb Mb ∧ fstL Mb = allP F2) := ⟨esb, hfb⟩; have HMA2 : Hid (ES w9.heap.size wb va Ma ∧ fstL Ma = allP F2) := ⟨HMA.out.1.below bb, HMA.out.2⟩; clear bb esb hfb HMA HAA HOA HKPA)
            | (go_at_call 21; go_must (refine (sa_same HAB.out HMA2.out.1 HMB.out.1 HMA2.out.2 HMB.out.2).mono ?_); rintro e wc ⟨rfl, bc⟩; have HAC : Hid (SA w wc gs gr m mb3 L3 V4 M4 F2 F2) := HAB.out.below bc; have HOC : Hid (wc.ownsRow 0 9 1 (.slice y7 gN c7) gN (tC gds)) := own_past HOB.out bc; have l3 : wc.cell? ⟨w7.heap.size, 3, none⟩ = some (.slice y7 gN c7) := (HKPB.out.below bc).cell 3; clear bc HAB HOB HKPB HMA2 HMB)
            | (go_at_call 17; have _t := tk2; go_must (refine (spoil_any HGN.out HOC.out (HGT.out HAC.out).1 (HGT.out HAC.out).2).mono ?_); rintro e wd ⟨rfl, Td⟩; have HAD : Hid (SA w wd gs gr m mb3 L3 V4 M4 F2 F2) := HAC.out.own Td HP7.out; clear Td tk2 l3 HAC HOC))
          go_roundw
          case rel => exact ⟨j + 1, mb3, L3, V4, M4, F2, by go_num, by omega, by omega, HAD⟩
          case measure => simp [intOf]; omega
        | true =>
          have HE : Hid (errP ⟨n, t, l, ds, r, u⟩ now = 0) := by unfold Hid errP; rw [hmay]; rfl
          clear hmay
          have tk1 : True := trivial
          have tk2 : True := trivial
          go_wp2_with (first
            | (go_at_call 13; go_must (refine (HLEND.out _ (next HS.out.lw.bel HX0.out)).mono ?_); rintro e w1 ⟨g, cap, rfl, hcap, hl1, ho1, b1⟩; have hg1 := (ho1.lt g rfl).1; rw [HX2.out] at hg1; have BX1 : BX w1 wr.heap.size (wr.heap.size + 1) g N cap #[.string n, .int .i64 t, .int .i64 l, .slice y N c, .int .i64 r, .int .i64 u, .int .i64 now, .string an, .int .i64 at2] #[.string n, .int .i64 t, .int .i64 l, .slice y N c, .int .i64 r, .int .i64 u] ds := ⟨HKA.out.below b1, HKX.out.below b1, hl1, own_base ho1 (Nat.zero_le _)⟩; have SA1 := HS.out.below (next HX0.out b1); have T2 : Turn (fun k => k = wr.heap.size + 1) w1 (w1.setCell ⟨wr.heap.size + 1, 3, none⟩ (.slice (some ⟨g, 0, none⟩) N cap)) := Turn.of_set (S := fun k => k = wr.heap.size + 1) w1 (p := ⟨wr.heap.size + 1, 3, none⟩) rfl _; have HA2 : Hid (SA w (w1.setCell ⟨wr.heap.size + 1, 3, none⟩ (.slice (some ⟨g, 0, none⟩) N cap)) gs gr m mb L V M F F) := SA1.own T2 (fun k hk => ⟨(by omega), HS.out.fresh (by omega)⟩); have HB2 : Hid (BX (w1.setCell ⟨wr.heap.size + 1, 3, none⟩ (.slice (some ⟨g, 0, none⟩) N cap)) wr.heap.size (wr.heap.size + 1) g N cap #[.string n, .int .i64 t, .int .i64 l, .slice y N c, .int .i64 r, .int .i64 u, .int .i64 now, .string an, .int .i64 at2] #[.string n, .int .i64 t, .int .i64 l, .slice (some ⟨g, 0, none⟩) N cap, .int .i64 r, .int .i64 u] ds) := ⟨T2.blk BX1.a (by omega), BX1.x.set 3 _, hl1.turn T2 (by omega), T2.row BX1.o (fun k hk => by simp [Value.ownBlock] at hk; omega)⟩; have HP2 : Hid (w.heap.size ≤ g ∧ apart gs gr mb L V M g) := ⟨(by omega), HS.out.fresh (by omega)⟩; have HRW : Hid (Row (w1.setCell ⟨wr.heap.size + 1, 3, none⟩ (.slice (some ⟨g, 0, none⟩) N cap)) (.slice (some ⟨g, 0, none⟩) N cap) ds.length (tC ds)) := (by have := Row.of_own HB2.out.o; rw [HN.out] at this ⊢; exact this); have q3 : w1.cell? ⟨wr.heap.size + 1, 3, none⟩ = some (.slice y N c) := BX1.x.cell 3; have q3f := BX1.x.frozen 3; have m0 : (w1.setCell ⟨wr.heap.size + 1, 3, none⟩ (.slice (some ⟨g, 0, none⟩) N cap)).cell? ⟨wr.heap.size + 1, 0, none⟩ = some (.string n) := HB2.out.x.cell 0; have m1 : (w1.setCell ⟨wr.heap.size + 1, 3, none⟩ (.slice (some ⟨g, 0, none⟩) N cap)).cell? ⟨wr.heap.size + 1, 1, none⟩ = some (.int .i64 t) := HB2.out.x.cell 1; have m2 : (w1.setCell ⟨wr.heap.size + 1, 3, none⟩ (.slice (some ⟨g, 0, none⟩) N cap)).cell? ⟨wr.heap.size + 1, 2, none⟩ = some (.int .i64 l) := HB2.out.x.cell 2; have m3 : (w1.setCell ⟨wr.heap.size + 1, 3, none⟩ (.slice (some ⟨g, 0, none⟩) N cap)).cell? ⟨wr.heap.size + 1, 3, none⟩ = some (.slice (some ⟨g, 0, none⟩) N cap) := HB2.out.x.cell 3; have m4 : (w1.setCell ⟨wr.heap.size + 1, 3, none⟩ (.slice (some ⟨g, 0, none⟩) N cap)).cell? ⟨wr.heap.size + 1, 4, none⟩ = some (.int .i64 r) := HB2.out.x.cell 4; have m5 : (w1.setCell ⟨wr.heap.size + 1, 3, none⟩ (.slice (some ⟨g, 0, none⟩) N cap)).cell? ⟨wr.heap.size + 1, 5, none⟩ = some (.int .i64 u) := HB2.out.x.cell 5; have k6 : (w1.setCell ⟨wr.heap.size + 1, 3, none⟩ (.slice (some ⟨g, 0, none⟩) N cap)).cell? ⟨wr.heap.size, 6, none⟩ = some (.int .i64 now) := HB2.out.a.cell 6; clear hl1 ho1 b1 BX1 SA1 T2)
            | (go_at_call 14; go_must (refine (sa_put HA2.out n t l r u now (.slice (some ⟨g, 0, none⟩) N cap) ds HNM.out HRW.out HLN.out HSZ.out 0 HE.out F2 HF2.out).mono ?_); rintro e w3 ⟨rfl, mb3, L3, sa3, kb3, ap3, hs3⟩; have HA3 : Hid (SA w w3 gs gr m mb3 L3 V M F2 F) := sa3; have HB3 : Hid (BX w3 wr.heap.size (wr.heap.size + 1) g N cap #[.string n, .int .i64 t, .int .i64 l, .slice y N c, .int .i64 r, .int .i64 u, .int .i64 now, .string an, .int .i64 at2] #[.string n, .int .i64 t, .int .i64 l, .slice (some ⟨g, 0, none⟩) N cap, .int .i64 r, .int .i64 u] ds) := HB2.out.kept kb3 (by decide) (by decide) (by decide); have HP3 : Hid (w.heap.size ≤ g ∧ apart gs gr mb3 L3 V M g) := ⟨HP2.out.1, ap3 g (HB2.out.o.lt g rfl).2 HP2.out.2⟩; have a0 : (w3).cell? ⟨wr.heap.size, 0, none⟩ = some (.string n) := HB3.out.a.cell 0; have a1 : (w3).cell? ⟨wr.heap.size, 1, none⟩ = some (.int .i64 t) := HB3.out.a.cell 1; have a2 : (w3).cell? ⟨wr.heap.size, 2, none⟩ = some (.int .i64 l) := HB3.out.a.cell 2; have a3 : (w3).cell? ⟨wr.heap.size, 3, none⟩ = some (.slice y N c) := HB3.out.a.cell 3; have a4 : (w3).cell? ⟨wr.heap.size, 4, none⟩ = some (.int .i64 r) := HB3.out.a.cell 4; have a5 : (w3).cell? ⟨wr.heap.size, 5, none⟩ = some (.int .i64 u) := HB3.out.a.cell 5; have a6 : (w3).cell? ⟨wr.heap.size, 6, none⟩ = some (.int .i64 now) := HB3.out.a.cell 6; have b3 : w3.cell? ⟨wr.heap.size + 1, 3, none⟩ = some (.slice (some ⟨g, 0, none⟩) N cap) := HB3.out.x.cell 3; clear sa3 kb3 ap3 hs3 HA2 HB2 HP2 HRW q3 q3f m0 m1 m2 m3 m4 m5 k6))
          go_region_held3 (fun z => z.cell? ⟨wr.heap.size, 0, none⟩ = some (.string n) ∧ z.cell? ⟨wr.heap.size, 1, none⟩ = some (.int .i64 t) ∧ z.cell? ⟨wr.heap.size, 2, none⟩ = some (.int .i64 l) ∧ z.cell? ⟨wr.heap.size, 3, none⟩ = some (.slice y N c) ∧ z.cell? ⟨wr.heap.size, 4, none⟩ = some (.int .i64 r) ∧ z.cell? ⟨wr.heap.size, 5, none⟩ = some (.int .i64 u) ∧ z.cell? ⟨wr.heap.size, 6, none⟩ = some (.int .i64 now) ∧ z.cell? ⟨wr.heap.size + 1, 3, none⟩ = some (.slice (some ⟨g, 0, none⟩) N cap)) (first | (simp only [World.cell?_drew, a0, a1, a2, a3, a4, a5, a6, b3, and_self]; done) | (simp only [d0, d1, d2, d3, d4, d5, d6, d7, and_self]; done) | (simp only [f0, f1, f2, f3, f4, f5, f6, f7, and_self]; done))
            (first
              | (go_at_call 11; refine (num_any _ _).mono ?_; rintro e w' ⟨rfl, hw'⟩; obtain rfl := hw'.symm)
              | (go_at_call 15; refine (sa_rput (HA3.out.below (Below.refl _ _).drew) n t l r u now y c N ds HN.out HNM.out (HROW.out _ (next HA3.out.lw.bel (Below.refl _ _).drew)) HLN.out HSZ.out 0 HE.out F2 HF2.out).mono ?_; rintro e w4 ⟨rfl, V4, M4, sa4, kb4, ap4, hs4⟩; have HA4 : Hid (SA w w4 gs gr m mb3 L3 V4 M4 F2 F2) := sa4; have HB4 : Hid (BX w4 wr.heap.size (wr.heap.size + 1) g N cap #[.string n, .int .i64 t, .int .i64 l, .slice y N c, .int .i64 r, .int .i64 u, .int .i64 now, .string an, .int .i64 at2] #[.string n, .int .i64 t, .int .i64 l, .slice (some ⟨g, 0, none⟩) N cap, .int .i64 r, .int .i64 u] ds) := (HB3.out.below (Below.refl _ _).drew).kept kb4 (by decide) (by decide) (by decide); have HP4 : Hid (w.heap.size ≤ g ∧ apart gs gr mb3 L3 V4 M4 g) := ⟨HP3.out.1, ap4 g ((HB3.out.below (Below.refl _ _).drew).o.lt g rfl).2 HP3.out.2⟩; have d0 : (w4).cell? ⟨wr.heap.size, 0, none⟩ = some (.string n) := HB4.out.a.cell 0; have d1 : (w4).cell? ⟨wr.heap.size, 1, none⟩ = some (.int .i64 t) := HB4.out.a.cell 1; have d2 : (w4).cell? ⟨wr.heap.size, 2, none⟩ = some (.int .i64 l) := HB4.out.a.cell 2; have d3 : (w4).cell? ⟨wr.heap.size, 3, none⟩ = some (.slice y N c) := HB4.out.a.cell 3; have d4 : (w4).cell? ⟨wr.heap.size, 4, none⟩ = some (.int .i64 r) := HB4.out.a.cell 4; have d5 : (w4).cell? ⟨wr.heap.size, 5, none⟩ = some (.int .i64 u) := HB4.out.a.cell 5; have d6 : (w4).cell? ⟨wr.heap.size, 6, none⟩ = some (.int .i64 now) := HB4.out.a.cell 6; have d7 : w4.cell? ⟨wr.heap.size + 1, 3, none⟩ = some (.slice (some ⟨g, 0, none⟩) N cap) := HB4.out.x.cell 3; clear sa4 kb4 ap4 hs4)
              | (go_at_call 16; refine (kept_any HN.out HB4.out.l hcap (HROW.out _ HA4.out.lw.bel) HLN.out).mono ?_; rintro e w5 ⟨rfl, b5⟩; have HA5 : Hid (SA w w5 gs gr m mb3 L3 V4 M4 F2 F2) := HA4.out.below b5; have HB5 : Hid (BX w5 wr.heap.size (wr.heap.size + 1) g N cap #[.string n, .int .i64 t, .int .i64 l, .slice y N c, .int .i64 r, .int .i64 u, .int .i64 now, .string an, .int .i64 at2] #[.string n, .int .i64 t, .int .i64 l, .slice (some ⟨g, 0, none⟩) N cap, .int .i64 r, .int .i64 u] ds) := HB4.out.below b5; have f0 : (w5).cell? ⟨wr.heap.size, 0, none⟩ = some (.string n) := HB5.out.a.cell 0; have f1 : (w5).cell? ⟨wr.heap.size, 1, none⟩ = some (.int .i64 t) := HB5.out.a.cell 1; have f2 : (w5).cell? ⟨wr.heap.size, 2, none⟩ = some (.int .i64 l) := HB5.out.a.cell 2; have f3 : (w5).cell? ⟨wr.heap.size, 3, none⟩ = some (.slice y N c) := HB5.out.a.cell 3; have f4 : (w5).cell? ⟨wr.heap.size, 4, none⟩ = some (.int .i64 r) := HB5.out.a.cell 4; have f5 : (w5).cell? ⟨wr.heap.size, 5, none⟩ = some (.int .i64 u) := HB5.out.a.cell 5; have f6 : (w5).cell? ⟨wr.heap.size, 6, none⟩ = some (.int .i64 now) := HB5.out.a.cell 6; have f7 : w5.cell? ⟨wr.heap.size + 1, 3, none⟩ = some (.slice (some ⟨g, 0, none⟩) N cap) := HB5.out.x.cell 3; clear b5))
          clear a0 a1 a2 a3 a4 a5 a6 b3 d0 d1 d2 d3 d4 d5 d6 d7 HA3 HB3 HP3 HA4 HB4
          go_wp2_with (first
            | (go_at_call 17; have _t := tk1; go_must (refine (spoil_any HN.out HB5.out.o HLN.out HSZ.out).mono ?_); rintro e w6 ⟨rfl, T6⟩; have HA6 : Hid (SA w w6 gs gr m mb3 L3 V4 M4 F2 F2) := HA5.out.own T6 (fun k hk => by simp [Value.ownBlock] at hk; subst hk; exact HP4.out); have kA6 : Blk w6 wr.heap.size #[.string n, .int .i64 t, .int .i64 l, .slice y N c, .int .i64 r, .int .i64 u, .int .i64 now, .string an, .int .i64 at2] 38 := T6.blk HB5.out.a (fun hk => by simp [Value.ownBlock] at hk; omega); have HKA6 : Hid (Blk w6 wr.heap.size #[.string n, .int .i64 t, .int .i64 l, .slice y N c, .int .i64 r, .int .i64 u, .int .i64 now, .string an, .int .i64 at2] 38) := kA6; have h6 : w6.cell? ⟨wr.heap.size, 6, none⟩ = some (.int .i64 now) := kA6.cell 6; have h7 : w6.cell? ⟨wr.heap.size, 7, none⟩ = some (.string an) := kA6.cell 7; have h8 : w6.cell? ⟨wr.heap.size, 8, none⟩ = some (.int .i64 at2) := kA6.cell 8; clear T6 kA6 tk1 f0 f1 f2 f3 f4 f5 f6 f7 HA5 HB5 HP4)
            | (go_at_call 18; go_must (refine (HGET.out HA6.out).mono ?_); rintro e w7 ⟨y7, c7, rfl, ho7, b7⟩; have HP7 : Hid (∀ k, (Value.slice y7 gN c7).ownBlock = some k → w.heap.size ≤ k ∧ apart gs gr mb3 L3 V4 M4 k) := (fun k hk => by have h1 := (ho7.lt k hk).1; have h2 := HA6.out.lw.bel.size; exact ⟨Nat.le_trans h2 h1, HA6.out.fresh h1⟩); have HA7 : Hid (SA w (w7.alloc (.cells #[.string gn, .int .i64 gt, .int .i64 gl, .slice y7 gN c7] 34)) gs gr m mb3 L3 V4 M4 F2 F2) := (HA6.out.below b7).below (lay (Below.refl _ _) _); have HO7 : Hid ((w7.alloc (.cells #[.string gn, .int .i64 gt, .int .i64 gl, .slice y7 gN c7] 34)).ownsRow 0 9 1 (.slice y7 gN c7) gN (tC gds)) := own_base (ho7.alloc _) (Nat.zero_le _); have HKP : Hid (Blk (w7.alloc (.cells #[.string gn, .int .i64 gt, .int .i64 gl, .slice y7 gN c7] 34)) w7.heap.size #[.string gn, .int .i64 gt, .int .i64 gl, .slice y7 gN c7] 34) := Blk.new w7 _ _; have i6 : ∀ o, (w7.alloc o).cell? ⟨wr.heap.size, 6, none⟩ = some (.int .i64 now) := (fun o => ((HKA6.out.below b7).alloc o).cell 6); have i7 : ∀ o, (w7.alloc o).cell? ⟨wr.heap.size, 7, none⟩ = some (.string an) := (fun o => ((HKA6.out.below b7).alloc o).cell 7); have i8 : ∀ o, (w7.alloc o).cell? ⟨wr.heap.size, 8, none⟩ = some (.int .i64 at2) := (fun o => ((HKA6.out.below b7).alloc o).cell 8); clear ho7 b7 h6 h7 h8)
            | (go_at_call 19; go_must (refine (HRGET.out HA7.out).mono ?_); rintro e w8 ⟨y8, c8, rfl, ho8, b8⟩; have HA8 : Hid (SA w (w8.alloc (.cells #[.string gn, .int .i64 gt, .int .i64 gl, .slice y8 gN c8] 34)) gs gr m mb3 L3 V4 M4 F2 F2) := (HA7.out.below b8).below (lay (Below.refl _ _) _); have HO8 : Hid ((w8.alloc (.cells #[.string gn, .int .i64 gt, .int .i64 gl, .slice y8 gN c8] 34)).ownsRow 0 9 1 (.slice y7 gN c7) gN (tC gds)) := own_past (own_past HO7.out b8) (lay (Below.refl _ _) _); have HR8 : Hid (Row (w8.alloc (.cells #[.string gn, .int .i64 gt, .int .i64 gl, .slice y8 gN c8] 34)) (.slice y8 gN c8) gN (tC gds)) := Row.of_own (ho8.alloc _); have HKP8 : Hid (Blk (w8.alloc (.cells #[.string gn, .int .i64 gt, .int .i64 gl, .slice y8 gN c8] 34)) w7.heap.size #[.string gn, .int .i64 gt, .int .i64 gl, .slice y7 gN c7] 34) := (HKP.out.below b8).alloc _; have j0 : (w8.alloc (.cells #[.string gn, .int .i64 gt, .int .i64 gl, .slice y8 gN c8] 34)).cell? ⟨w7.heap.size, 0, none⟩ = some (.string gn) := HKP8.out.cell 0; have j1 : (w8.alloc (.cells #[.string gn, .int .i64 gt, .int .i64 gl, .slice y8 gN c8] 34)).cell? ⟨w7.heap.size, 1, none⟩ = some (.int .i64 gt) := HKP8.out.cell 1; have j2 : (w8.alloc (.cells #[.string gn, .int .i64 gt, .int .i64 gl, .slice y8 gN c8] 34)).cell? ⟨w7.heap.size, 2, none⟩ = some (.int .i64 gl) := HKP8.out.cell 2; have j3 : (w8.alloc (.cells #[.string gn, .int .i64 gt, .int .i64 gl, .slice y8 gN c8] 34)).cell? ⟨w7.heap.size, 3, none⟩ = some (.slice y7 gN c7) := HKP8.out.cell 3; clear ho8 b8 i6 i7 i8 HA7 HO7 HKP)
            | (go_at_call 20; go_must (refine (HSAME.out (HGT.out HA8.out).1 (Row.of_own HO8.out) HR8.out).mono ?_); rintro e w9 ⟨rfl, b9⟩; have HA9 : Hid (SA w w9 gs gr m mb3 L3 V4 M4 F2 F2) := HA8.out.below b9; have HO9 : Hid (w9.ownsRow 0 9 1 (.slice y7 gN c7) gN (tC gds)) := own_past HO8.out b9; have HKP9 : Hid (Blk w9 w7.heap.size #[.string gn, .int .i64 gt, .int .i64 gl, .slice y7 gN c7] 34) := HKP8.out.below b9; clear b9 j0 j1 j2 j3 HA8 HO8 HR8 HKP8)
            | (go_at_call 11; refine (num_any _ _).mono ?_; rintro e w' ⟨rfl, hw⟩; obtain rfl := hw.symm)
            | (go_at_call 22; go_must (refine (sa_all HA9.out).mono ?_); rintro e wa ⟨va, Ma, rfl, esa, hfa, ba⟩; have HAA : Hid (SA w wa gs gr m mb3 L3 V4 M4 F2 F2) := HA9.out.below ba; have HOA : Hid (wa.ownsRow 0 9 1 (.slice y7 gN c7) gN (tC gds)) := own_past HO9.out ba; have HKPA : Hid (Blk wa w7.heap.size #[.string gn, .int .i64 gt, .int .i64 gl, .slice y7 gN c7] 34) := HKP9.out.below ba; have HMA : Hid (ES w9.heap.size wa va Ma ∧ fstL Ma = allP F2) := ⟨esa, hfa⟩; clear ba esa hfa HA9 HO9 HKP9)
            | (go_at_call 23; go_must (refine (sa_rall HAA.out).mono ?_); rintro e wb ⟨vb, Mb, rfl, esb, hfb, bb⟩; have HAB : Hid (SA w wb gs gr m mb3 L3 V4 M4 F2 F2) := HAA.out.below bb; have HOB : Hid (wb.ownsRow 0 9 1 (.slice y7 gN c7) gN (tC gds)) := own_past HOA.out bb; have HKPB : Hid (Blk wb w7.heap.size #[.string gn, .int .i64 gt, .int .i64 gl, .slice y7 gN c7] 34) := HKPA.out.below bb; have HMB : Hid (ES wa.heap.size wb vb Mb ∧ fstL Mb = allP F2) := ⟨esb, hfb⟩; have HMA2 : Hid (ES w9.heap.size wb va Ma ∧ fstL Ma = allP F2) := ⟨HMA.out.1.below bb, HMA.out.2⟩; clear bb esb hfb HMA HAA HOA HKPA)
            | (go_at_call 21; go_must (refine (sa_same HAB.out HMA2.out.1 HMB.out.1 HMA2.out.2 HMB.out.2).mono ?_); rintro e wc ⟨rfl, bc⟩; have HAC : Hid (SA w wc gs gr m mb3 L3 V4 M4 F2 F2) := HAB.out.below bc; have HOC : Hid (wc.ownsRow 0 9 1 (.slice y7 gN c7) gN (tC gds)) := own_past HOB.out bc; have l3 : wc.cell? ⟨w7.heap.size, 3, none⟩ = some (.slice y7 gN c7) := (HKPB.out.below bc).cell 3; clear bc HAB HOB HKPB HMA2 HMB)
            | (go_at_call 17; have _t := tk2; go_must (refine (spoil_any HGN.out HOC.out (HGT.out HAC.out).1 (HGT.out HAC.out).2).mono ?_); rintro e wd ⟨rfl, Td⟩; have HAD : Hid (SA w wd gs gr m mb3 L3 V4 M4 F2 F2) := HAC.out.own Td HP7.out; clear Td tk2 l3 HAC HOC))
          go_roundw
          case rel => exact ⟨j + 1, mb3, L3, V4, M4, F2, by go_num, by omega, by omega, HAD⟩
          case measure => simp [intOf]; omega
      · have hend : ((decide ((j : Int) < (na : Int)) && decide ((j : Int) < 80)) = false) := by
          rw [Bool.and_eq_false_iff, decide_eq_false_iff_not, decide_eq_false_iff_not]
          omega
        by_cases hj : j < na
        · have hj' : (j : Int) < (na : Int) := by omega
          have h8' : decide ((j : Int) < 80) = false := by rw [decide_eq_false_iff_not]; omega
          clear hend
          go_wp2_with (go_at_call 12; go_must (refine (awake_any _).mono ?_); rintro e w1 ⟨rfl, b1⟩)
          go_ret
          exact ⟨rfl, next HS.out.lw.bel b1⟩
        · have hj' : decide (j < na) = false := by simpa using hj
          clear hend
          go_wp2_with (go_at_call 12; go_must (refine (awake_any _).mono ?_); rintro e w1 ⟨rfl, b1⟩)
          go_ret
          exact ⟨rfl, next HS.out.lw.bel b1⟩

theorem own : ownKnob Try.prog.godebug = none := by kernel_rfl
theorem laidOut : laidOutB Try.prog = true := by kernel_rfl

set_option maxRecDepth 100000 in
theorem lifted (os : Os) (started : os.Started) (H : Type) (enc : TypeId × Value → H) :
    ReturnsInHanded {} Try.checked os 3 .any (Rows.storeActsSpec.pre6 enc Try.prog Try.f3 Rows.storeActsRow.domain false) (Rows.storeActsSpec.post enc Try.prog Try.f3 false true false false) := by
  refine returnsInHanded_of_change_sized (C := Try.checked) own started (by kernel_rfl) Try.func3
    (ChangeSpec.witness6 (enc := enc) (C := Try.checked) false ⟨#[], #[.int .i64 0, .slice none 0 0], []⟩ 8 (by kernel_rfl) (by kernel_rfl) (by kernel_rfl) (by kernel_rfl)) ?_
  intro W base args ds gs before hval0 hW _ hsz0 _
  have hval : ∀ (j : Nat) t v, Try.f3.params[j]? = some t → args[j]? = some v → Value.okWide Try.prog W .any base t v := hval0
  have hsz : (DataW.weightsEach Try.prog (Try.f3.params.toList ++ Rows.storeActsSpec.plain.varTypes Try.prog) (ds ++ gs)).all (· ≤ reachBytes) = true := hsz0
  have hW' := hW
  obtain ⟨p, q, hA0, hV, rfl, hfz, hnd⟩ := hW
  have hA : DataW.TrodAll enc Try.prog W 0 (fun _ => true) true Try.f3.params.toList args.toList ds p := hA0
  rw [Try.params3] at hA hval hsz
  obtain ⟨v0, vs0, d0, ds0, p0, q0, hargs, rfl, rfl, h0, r0⟩ := trodAll_cons hA
  obtain ⟨v1, vs1, d1, ds1, p1, q1, rfl, rfl, rfl, h1, r1⟩ := trodAll_cons r0
  obtain ⟨rfl, rfl, rfl⟩ := trodAll_nil r1
  obtain rfl : args = #[v0, v1] := by cases args; simp_all
  obtain ⟨rfl, rfl⟩ := trodVars_none hV
  obtain ⟨a0, rfl, rfl, rfl, w0⟩ := open_int Try.underlying3 (hval 0 3 v0 rfl rfl) h0
  obtain ⟨a1, w1, y1, z1⟩ := open_acts (hval 1 22 v1 rfl rfl) h1 (weights_all hsz (j := 1) rfl rfl)
  have hlt1 : ∀ x ∈ p1, x.block < W.heap.size := fun x hx => by
    have := hW'.lt x (by simp [hx])
    simpa using this
  clear hA0 hval0 hsz0 hsz
  simp only [List.append_nil] at hW'
  refine (walk a0 v1 a1 w0 y1 W w1 z1).mono fun e W' ⟨he, bel⟩ => ?_
  subst he
  exact ⟨_, rfl, _, _, _, [], _, [], hW', trodAll_mk1 (shut_bool Try.underlying4 _), (trodAll_cons_mk (shut_int Try.underlying3 w0) (trodAll_cons_mk (Below.trod laidOut (by kernel_rfl) (of_decide_eq_true (by kernel_rfl)) h1 bel hlt1) trodAll_mk0)), rfl, bel.frame _, fun h => by cases h⟩

/-- The statement. -/
theorem proved : Rows.StoreActsSaid :=
  OpenClaim.holds_of_wide 3 Try.f3 rfl rfl rfl rfl rfl rfl rfl ⟨rfl, rfl, rfl, rfl, rfl⟩ rfl rfl rfl rfl rfl (by kernel_rfl) Try.func3 (by kernel_rfl)
    (of_decide_eq_true (by kernel_rfl)) (by unfold Func.isWrapper; first | (rw [if_pos (by decide +kernel)]; kernel_rfl) | (rw [if_neg (by decide +kernel)]; exact ⟨rfl, rfl⟩))
    (fun os started H enc _ => lifted os started H enc)
#print axioms proved

end Go.Proofs.Ytcmhjlflgedcdaa.storeActs
