/- The program's cuts and the document's, side by side. -/
import Derived.Test.YtnjgdfmldjgloaaGreatXCxJ
import Derived.Test.YtnjgdfmldjgloaaGreatXCxK
namespace Go.Proofs.YtnjgdfmldjgloaaGreat
open Go.RowKit
open Pl
namespace Cu

/-- The two; all of the document's blocks are the law's own (M). -/
structure SA (w0 w : World) (o : OB) (gr : Nat) (V : Value) (Hs : List ByteArray) (Hb : List Bn) (F : List Ct) (L : List (Rk × RQ)) (M : Nat → Prop) : Prop where
  lw : LW w0 w o Hs Hb F M
  rs : RS w gr V L
  own : ∀ k, rsf gr V L k → M k
theorem SA.below {w0 w w' : World} {o : OB} {gr : Nat} {V : Value} {Hs : List ByteArray} {Hb : List Bn} {F : List Ct} {L : List (Rk × RQ)} {M : Nat → Prop} (h : SA w0 w o gr V Hs Hb F L M) (hb : Below w.heap.size w w') : SA w0 w' o gr V Hs Hb F L M := ⟨h.lw.below hb, h.rs.below hb, h.own⟩
/-- New blocks become the law's own. -/
def newM (M : Nat → Prop) (w w' : World) (k : Nat) : Prop := M k ∨ (w.heap.size ≤ k ∧ k < w'.heap.size)
theorem SA.more {w0 w w' : World} {o : OB} {gr : Nat} {V : Value} {Hs : List ByteArray} {Hb : List Bn} {F : List Ct} {L : List (Rk × RQ)} {M : Nat → Prop} (h : SA w0 w o gr V Hs Hb F L M) (hb : Below w.heap.size w w') : SA w0 w' o gr V Hs Hb F L (newM M w w') :=
  ⟨h.lw.more hb (fun k hk => hk.elim (fun e => ⟨.inl e, Nat.lt_of_lt_of_le (h.lw.mlt k e).2 hb.size⟩) (fun e => ⟨.inr e.1, e.2⟩)), h.rs.below hb, fun k hk => .inl (h.own k hk)⟩
/-- The law writes its own blocks, none of the document's. -/
theorem SA.wrote {w0 w w' : World} {o : OB} {gr : Nat} {V : Value} {Hs : List ByteArray} {Hb : List Bn} {F : List Ct} {L : List (Rk × RQ)} {M S : Nat → Prop} (h : SA w0 w o gr V Hs Hb F L M) (ht : Turn S w w') (hS : ∀ k, S k → M k ∧ ¬ rsf gr V L k) : SA w0 w' o gr V Hs Hb F L M :=
  ⟨h.lw.step (ht.more (fun k hk => (hS k hk).1)) (fun k hk => ⟨.inl hk, Nat.lt_of_lt_of_le (h.lw.mlt k hk).2 ht.size⟩), h.rs.turn ht (fun k hk e => (hS k e).2 hk), h.own⟩
/-- The program's object is turned. -/
theorem SA.turned {w0 w w' : World} {o : OB} {gr : Nat} {V : Value} {Hs : List ByteArray} {Hb : List Bn} {F F' : List Ct} {L : List (Rk × RQ)} {M : Nat → Prop} (h : SA w0 w o gr V Hs Hb F L M) (l' : LW w0 w' o Hs Hb F' M) (ht : Turn (Far w0 M) w w') : SA w0 w' o gr V Hs Hb F' L M :=
  ⟨l', h.rs.turn ht (fun k hk e => e.2 (h.own k hk)), h.own⟩
/-- The document's object is turned. -/
theorem SA.rturned {w0 w w' : World} {o : OB} {gr : Nat} {V V' : Value} {Hs : List ByteArray} {Hb : List Bn} {F : List Ct} {L L' : List (Rk × RQ)} {M S : Nat → Prop} (h : SA w0 w o gr V Hs Hb F L M) (r' : RS w' gr V' L') (ht : Turn S w w') (hS : ∀ k, S k → rsf gr V L k) (hf : ∀ k, rsf gr V' L' k → rsf gr V L k ∨ w.heap.size ≤ k) : SA w0 w' o gr V' Hs Hb F L' (newM M w w') := by
  refine ⟨h.lw.step (ht.more (fun k hk => h.own k (hS k hk))) (fun k hk => ?_), r', fun k hk => ?_⟩
  · rcases hk with e | e
    · exact ⟨.inl e, Nat.lt_of_lt_of_le (h.lw.mlt k e).2 ht.size⟩
    · exact ⟨.inr e.1, e.2⟩
  · rcases hf k hk with e | e
    · exact .inl (h.own k e)
    · exact .inr ⟨e, r'.lt k hk⟩
/-- A block of another type is none of the document's. -/
theorem RS.far {w : World} {gr : Nat} {V : Value} {L : List (Rk × RQ)} (h : RS w gr V L) {k : Nat} {C : Array Value} {t : TypeId} (hb : Blk w k C t) (h1 : t ≠ 72) (h2 : t ≠ 67) (h3 : t ≠ 69) (h4 : t ≠ 9) (h5 : t ≠ 65) : ¬ rsf gr V L k := by
  rintro (rfl | e | ⟨p, hp, e⟩)
  · exact h1 (blk_tag hb h.blk)
  · exact h2 (own_tag h.all e hb).symm
  · exact rk_far (h.cuts p hp) hb h3 h4 h5 e
theorem err_no {d : Dg} {fr : ByteArray} {now : Int} (h : mayD d fr now = false) : errC d fr now = 1500 := by unfold errC; rw [h]; rfl
theorem err_yes {d : Dg} {fr : ByteArray} {now : Int} (h : mayD d fr now = true) : errC d fr now = 0 := by unfold errC; rw [h]; rfl
theorem SA.rput {w0 w : World} {o : OB} {gr : Nat} {V : Value} {Hs : List ByteArray} {Hb : List Bn} {F F0 : List Ct} {L : List (Rk × RQ)} {M : Nat → Prop} (h : SA w0 w o gr V Hs Hb F L M) {i : Nat} (hF : FOk i F0) (hL : fstR L = allK Hs Hb F0) {d : Dg} {hv gv : Value} (hd : DIn w d hv gv) (fr : ByteArray) (now : Int) (hf : fr.size ≤ maxLen) (x : Int) (hx : errC d fr now = x) (F' : List Ct) (hF' : putC F0 d fr now = F') :
    Calls Tryz.prog 14 #[.pointer (some ⟨gr, 0, none⟩), .agg (dV d hv gv), .string fr, .int .i64 now] w fun e w' => e = .returned (.int .i64 x) ∧ ∃ V' L', SA w0 w' o gr V' Hs Hb F L' (newM M w w') ∧ fstR L' = allK Hs Hb F' ∧ Turn (fun k => k = gr) w w' ∧ ∀ k, rsf gr V' L' k → rsf gr V L k ∨ w.heap.size ≤ k := by
  have hpo := put_of hF Hs Hb d fr now
  rw [hF', ← hL] at hpo
  cases hm : mayD d fr now with
  | false =>
    rw [err_no hm] at hx
    subst hx
    refine (rput_no gr hd fr now hf hm).mono ?_
    rintro e w' ⟨he, b⟩
    refine ⟨he, V, L, h.more b, ?_, Turn.of_below b, fun _ hk => .inl hk⟩
    rw [← hpo]
    unfold putK
    rw [hm]
    rfl
  | true =>
    rw [err_yes hm] at hx
    subst hx
    refine (rput_yes h.rs hL hd fr now hf hm).mono ?_
    rintro e w' ⟨he, V', L', r, hl, t, ft⟩
    exact ⟨he, V', L', h.rturned r t (fun k hk => .inl hk) ft, hl.trans hpo, t, ft⟩
theorem SA.put {w0 w : World} {o : OB} {gr : Nat} {V : Value} {Hs : List ByteArray} {Hb : List Bn} {F : List Ct} {L : List (Rk × RQ)} {M : Nat → Prop} (h : SA w0 w o gr V Hs Hb F L M) {d : Dg} {hv gv : Value} (hd : DIn w d hv gv) (fr : ByteArray) (now : Int) (hf : fr.size ≤ maxLen) (x : Int) (hx : errC d fr now = x) (F' : List Ct) (hF : putC F d fr now = F') :
    Calls Tryz.prog 13 #[.pointer (some ⟨o.gs, 0, none⟩), .agg (dV d hv gv), .string fr, .int .i64 now] w fun e w' => e = .returned (.int .i64 x) ∧ SA w0 w' o gr V Hs Hb F' L M ∧ Turn (Far w0 M) w w' := by
  refine (h.lw.put hd fr now hf x hx F' hF).mono ?_
  rintro e w' ⟨he, l, t⟩
  exact ⟨he, h.turned l t, t⟩
theorem SA.learn {w0 w : World} {o : OB} {gr : Nat} {V : Value} {Hs : List ByteArray} {Hb : List Bn} {F : List Ct} {L : List (Rk × RQ)} {M : Nat → Prop} (h : SA w0 w o gr V Hs Hb F L M) (host : ByteArray) (a u now : Int) (hh : host.size ≤ maxLen) (hlen : ∀ c ∈ F, c.bs.length < 256) (F' : List Ct) (hF : lrnC F host a u now = F') :
    Calls Tryz.prog 19 #[.pointer (some ⟨o.gs, 0, none⟩), .string host, .int .i64 a, .int .i64 u, .int .i64 now] w fun e w' => e = .returned (.tuple #[]) ∧ SA w0 w' o gr V Hs Hb F' L M ∧ Turn (Far w0 M) w w' := by
  refine (h.lw.learn host a u now hh hlen F' hF).mono ?_
  rintro e w' ⟨he, l, t⟩
  exact ⟨he, h.turned l t, t⟩
theorem SA.rlearn {w0 w : World} {o : OB} {gr : Nat} {V : Value} {Hs : List ByteArray} {Hb : List Bn} {F F0 : List Ct} {L : List (Rk × RQ)} {M : Nat → Prop} (h : SA w0 w o gr V Hs Hb F L M) {i : Nat} (hF : FOk i F0) (hok : ∀ c ∈ F0, OkC c) (hi : i ≤ 60) (hHb : Hb.length ≤ 8) (hL : fstR L = allK Hs Hb F0) (host : ByteArray) (a u now : Int) (hh : host.size ≤ maxLen) (F' : List Ct) (hF' : lrnC F0 host a u now = F') :
    Calls Tryz.prog 20 #[.pointer (some ⟨gr, 0, none⟩), .string host, .int .i64 a, .int .i64 u, .int .i64 now] w fun e w' => e = .returned (.tuple #[]) ∧ ∃ L', SA w0 w' o gr V Hs Hb F L' (newM M w w') ∧ fstR L' = allK Hs Hb F' ∧ Turn (rsf gr V L) w w' ∧ ∀ k, rsf gr V L' k → rsf gr V L k ∨ w.heap.size ≤ k := by
  have hpo := lrn_of hF hok Hs Hb host a u now
  rw [hF', ← hL] at hpo
  have hlen : ∀ p ∈ L, p.1.bs.length < 256 := fun p hp => by
    have h1 : p.1 ∈ fstR L := List.mem_map.2 ⟨p, hp, rfl⟩
    rw [hL] at h1
    unfold allK at h1
    rcases List.mem_cons.1 h1 with e | h1
    · rw [e]; show Hb.length < 256; omega
    · obtain ⟨c, hc, e⟩ := List.mem_map.1 h1
      rw [← e]
      show (c.bs.map _).length < 256
      rw [List.length_map]
      exact hF.tr.few hi c hc
  refine (rlearn_any h.rs host a u now hh hlen).mono ?_
  rintro e w' ⟨he, L', r, hl, t, ft⟩
  exact ⟨he, L', h.rturned r t (fun k hk => hk) ft, hl.trans hpo, t, ft⟩
/-- A Cuts of each, new. -/
theorem sa_new {w0 w w' : World} {o : OB} {gr : Nat} {V : Value} {hs : List Hn} {q : RQ} {M : Nat → Prop} (hw : LW w0 w o (hostsN hs) (bindsN hs) [] M) (hr : RS w' gr V [(rkRt (hostsN hs) (bindsN hs), q)]) (hn : ∀ k, rsf gr V [(rkRt (hostsN hs) (bindsN hs), q)] k → w.heap.size ≤ k) (hb : Below w.heap.size w w') :
    SA w0 w' o gr V (hostsN hs) (bindsN hs) [] [(rkRt (hostsN hs) (bindsN hs), q)] (newM M w w') :=
  ⟨hw.more hb (fun k hk => hk.elim (fun e => ⟨.inl e, Nat.lt_of_lt_of_le (hw.mlt k e).2 hb.size⟩) (fun e => ⟨.inr e.1, e.2⟩)), hr, fun k hk => .inr ⟨hn k hk, hr.lt k hk⟩⟩
theorem hostsF_ok {Hs : List ByteArray} {F : List Ct} (hH : Hs.length ≤ 8 ∧ ∀ h ∈ Hs, h.size ≤ 255) (hok : ∀ c ∈ F, OkC c) (cn : ByteArray) (now : Int) : (hostsF Hs F cn now).length ≤ 8 ∧ ∀ h ∈ hostsF Hs F cn now, h.size ≤ 255 := by
  unfold hostsF
  split
  · exact hH
  · cases hc : liveF F (fdB cn) now with
    | none => exact ⟨by simp, fun h hh => by simp at hh⟩
    | some c =>
      have h1 := hok c (liveF_some hc).1
      exact ⟨h1.hlen, h1.hnm⟩
theorem bindF_ok {Hb : List Bn} {F : List Ct} (hH : Hb.length ≤ 8) (hok : ∀ c ∈ F, OkC c) (cn : ByteArray) (now : Int) : (bindF Hb F cn now).length ≤ 256 := by
  unfold bindF
  split
  · omega
  · cases hc : liveF F (fdB cn) now with
    | none => simp
    | some c =>
      have h1 := hok c (liveF_some hc).1
      simp only [List.length_map]
      exact Nat.le_trans (List.length_filter_le _ _) h1.len

end Cu
end Go.Proofs.YtnjgdfmldjgloaaGreat
