import Derived.Test.YtkhlhokolfaieaaGreatDoorG9
/-
  readOn of nothing, close, Take, Open.
-/
namespace Go.Proofs.YtkhlhokolfaieaaGreatDoor
open Go.RowKit Go.MapKept

set_option maxHeartbeats 800000 in
set_option maxRecDepth 100000 in
theorem readOn_none {F : Nat → Prop} {w : World} {S c : Nat} {x : CX} {dv uv ov : Value} (h : Hid (Cn F w c x dv uv ov)) (hun : x.unread = []) :
    Calls Tryz.prog 37 #[.pointer (some ⟨S, 0, none⟩), .pointer (some ⟨c, 0, none⟩)] w fun e w' => e = .returned (.tuple #[]) ∧ ConnX F w w' c x := by
  obtain ⟨c0, c1, c2, f0, f1, f2⟩ := h.out.blk'
  obtain ⟨ao, cp, hov, hcp⟩ := row_slice2 h.out.ru
  have HF := forget_any h 0 (Nat.zero_le _)
  have e1 : ({ x with unread := if x.kind = 2 then [] else x.unread.drop 0 } : CX) = x := by
    cases x; simp only at hun; subst hun; simp
  rw [e1] at HF
  have HF' := hid HF
  rw [hun] at hov
  subst hov
  clear HF e1
  go_enter Tryz.func37, Tryz.ntmps37
  go_wp2_with fail
  refine wp_loop_rounds 1 ?_
  rw [rounds_succ]
  go_wp2_with fail
  refine HF'.out.mono ?_
  rintro e w1 ⟨rfl, hc⟩
  have HC := hid hc
  clear hc
  go_wp2
  exact bodyPost_end (v := .tuple #[]) (by simp [results, Tryz.results37, go_sem]) rfl ⟨rfl, HC.out⟩

end Go.Proofs.YtkhlhokolfaieaaGreatDoor

/-
  close, Take, Open.
-/
namespace Go.Proofs.YtkhlhokolfaieaaGreatDoor
open Go.RowKit Go.MapKept

theorem Cm.erase {w : World} {cm : Nat} {K : List (Int × Nat)} (h : Cm w cm K) (id : Int) (ty : TypeId) : ∃ W, (Builtin.delete_ #[46, 3] ty #[.map (some cm), .int .i64 id]).run Tryz.prog w = .ok (.tuple #[]) W ∧ Cm W cm (adel K id) ∧ Upd (fun k => k = cm) w W := by
  obtain ⟨es, clock, h3, h4⟩ := h
  obtain ⟨es', h5, h6⟩ := run_delete_ents (P := Tryz.prog) (w := w) ty Tryz.und46 Tryz.und3' int_key int_inj h3 h4 id
  exact ⟨_, h5, ⟨es', clock, (MapKept.heap_set h3).1, h6⟩, Upd.setObj _⟩

theorem Sv.closed {N : Nat} {F Fc : Nat → Prop} {w w' : World} {S : Nat} {p : Ps} {dv uv ov : Value} {x : Xs} (h : Sv N F Fc w S p dv uv ov x) (hu : Upd (fun k => k = p.cm) w w') (hc : Cm w' p.cm []) : SvX N F w w' S p { x with op := false } := by
  obtain ⟨n1, n2, n3⟩ := h.nes
  refine ⟨F, Fc, dv, uv, ov, ⟨h.srv.keep hu (fun e => n2 e.symm) (fun e => n1 e.symm) (fun e => h.ne e.symm), hc, h.cn.keep hu (fun k hk e => h.off.2.2.2 (e ▸ hk)), h.sub, h.own, h.off, h.ne, fun k hk => ⟨(h.low k hk).1, Nat.lt_of_lt_of_le (h.low k hk).2 hu.size⟩, ?_, h.ci, h.ti⟩, hu.mono (by rintro k _ rfl; exact h.own.2.2.2), fun k hk => Or.inl hk⟩
  have hN := h.low S h.own.1
  exact h.tb.keep (hu.below (by omega) (fun k hk e => by have := h.low k (e ▸ h.own.2.2.2); omega))

set_option maxHeartbeats 800000 in
set_option maxRecDepth 100000 in
theorem close_any {N : Nat} {F Fc : Nat → Prop} {w : World} {S : Nat} {p : Ps} {dv uv ov : Value} {x : Xs} (h : Hid (Sv N F Fc w S p dv uv ov x)) (hop : x.op = true) :
    Calls Tryz.prog 39 #[.pointer (some ⟨S, 0, none⟩), .int .i64 0] w fun e w' => e = .returned (.tuple #[]) ∧ SvX N F w w' S p { x with op := false } := by
  have c0 : w.cell? ⟨S, 0, none⟩ = some (.map (some p.cm)) := cell_of_heap h.out.srv.blk 0
  have hcm := h.out.cms
  rw [hop] at hcm
  simp only [if_true] at hcm
  obtain ⟨W, hW, hc, hu⟩ := hcm.erase 0 0
  have HE := hid (h.out.closed hu hc)
  clear hc hu hcm
  go_enter Tryz.func39, Tryz.ntmps39
  go_wp2
  exact bodyPost_end (v := .tuple #[]) (by simp [results, Tryz.results39, go_sem]) rfl ⟨rfl, HE.out⟩

set_option maxHeartbeats 800000 in
set_option maxRecDepth 100000 in
theorem open_any {N : Nat} {F Fc : Nat → Prop} {w : World} {S : Nat} {p : Ps} {dv uv ov : Value} {x : Xs} (h : Hid (Sv N F Fc w S p dv uv ov x)) :
    Calls Tryz.prog 11 #[.pointer (some ⟨S, 0, none⟩), .int .i64 0] w fun e w' => e = .returned (.bool x.op) ∧ Same w w' := by
  have c0 : w.cell? ⟨S, 0, none⟩ = some (.map (some p.cm)) := cell_of_heap h.out.srv.blk 0
  have hlook := h.out.cms.look 0
  cases hop : x.op
  · rw [hop] at hlook
    have e1 : aget ([] : List (Int × Nat)) 0 = none := rfl
    simp only [Bool.false_eq_true, if_false, e1, Option.map_none, Option.getD_none, Option.isSome_none] at hlook
    go_enter Tryz.func11, Tryz.ntmps11
    go_wp2
    go_ret
    exact ⟨rfl, Upd.refl _ _⟩
  · rw [hop] at hlook
    have e1 : aget [((0 : Int), p.c)] 0 = some p.c := rfl
    simp only [if_true, e1, Option.map_some, Option.getD_some, Option.isSome_some] at hlook
    unfold ptrV at hlook
    go_enter Tryz.func11, Tryz.ntmps11
    go_wp2
    go_ret
    exact ⟨rfl, Upd.refl _ _⟩

/-- All that waits is taken. -/
def Xs.took (x : Xs) : Xs := { x with cx := { x.cx with out := [] }, op := decide (x.cx.kind ≠ 2) }

set_option maxHeartbeats 1600000 in
set_option maxRecDepth 100000 in
theorem Take_open {N : Nat} {F Fc : Nat → Prop} {w : World} {S : Nat} {p : Ps} {dv uv ov : Value} {x : Xs} (h : Hid (Sv N F Fc w S p dv uv ov x)) (hop : x.op = true) (hun : x.cx.unread = []) (most : Nat) (h1 : 1 ≤ most) (hm : x.cx.out.length ≤ most) (hm2 : most ≤ 1073741824) :
    Calls Tryz.prog 16 #[.pointer (some ⟨S, 0, none⟩), .int .i64 0, .int .i64 most] w fun e w' => e = .returned (.string ⟨x.cx.out.toArray⟩) ∧ SvX N F w w' S p x.took := by
  have c0 : w.cell? ⟨S, 0, none⟩ = some (.map (some p.cm)) := cell_of_heap h.out.srv.blk 0
  have hlook := h.out.cms.look 0
  rw [hop] at hlook
  have e1 : aget [((0 : Int), p.c)] 0 = some p.c := rfl
  simp only [if_true, e1, Option.map_some, Option.getD_some, Option.isSome_some] at hlook
  unfold ptrV at hlook
  have HT := hid (take_any (hid h.out.cn) most hm)
  go_enter Tryz.func16, Tryz.ntmps16
  go_wp2_with fail
  refine HT.out.mono ?_
  rintro e w1 ⟨rfl, hc1⟩
  obtain ⟨F1, Fc1, dv1, uv1, ov1, s1, s2, s3⟩ := h.out.conn hc1 ⟨h.out.ci.rd, h.out.ci.tag, h.out.ci.kind⟩
  have H1 := hid s1
  have H2 := hid s2
  have H3 := hid s3
  clear hc1 s1 s2 s3 hlook c0
  go_wp2_with fail
  refine (readOn_none (S := S) (hid H1.out.cn) hun).mono ?_
  rintro e w2 ⟨rfl, hc2⟩
  obtain ⟨F2, Fc2, dv2, uv2, ov2, s1, s2, s3⟩ := H1.out.conn hc2 H1.out.ci
  have S1 := hid s1
  have S2 := hid s2
  have S3 := hid s3
  clear hc2 s1 s2 s3
  go_wp2_with fail
  have HD := isDone_any (hid S1.out.cn)
  have e2 : ∀ y : CX, y.out = [] → decide (y.kind = 2 ∧ y.out = []) = decide (y.kind = 2) := by intro y hy; simp [hy]
  rw [e2 _ rfl] at HD
  refine HD.mono ?_
  rintro e w3 ⟨rfl, hu3⟩
  have T1 := hid (S1.out.keep hu3 (fun _ _ h => h) (fun _ h => h.elim) (by have := S1.out.low S S1.out.own.1; omega))
  have T2 := hid hu3
  clear hu3 HD e2
  by_cases hk : x.cx.kind = 2
  · have ek : decide (x.cx.kind = 2) = true := decide_eq_true hk
    simp only [ek]
    have et : x.took = { x with cx := { x.cx with out := [] }, op := false } := by unfold Xs.took; rw [hk]; rfl
    go_wp2_with fail
    refine (close_any T1 hop).mono ?_
    rintro e w4 ⟨rfl, hs4⟩
    have HE := hid (SvX.trans H2.out H3.out (SvX.trans S2.out S3.out (SvX.trans (T2.out.mono (M' := F2) (fun _ _ h => h.elim)) (fun k hk => Or.inl hk) hs4)))
    rw [← et] at HE
    clear hs4 et
    go_wp2
    go_ret
    exact ⟨rfl, HE.out⟩
  · have ek : decide (x.cx.kind = 2) = false := decide_eq_false hk
    simp only [ek]
    have et : x.took = { x with cx := { x.cx with out := [] }, op := x.op } := by unfold Xs.took; rw [hop, decide_eq_true hk]
    have HE := hid (SvX.trans H2.out H3.out (SvX.trans S2.out S3.out ⟨F2, Fc2, dv2, uv2, ov2, T1.out, T2.out.mono (fun _ _ h => h.elim), fun k hk => Or.inl hk⟩))
    rw [← et] at HE
    clear et
    go_wp2
    go_ret
    exact ⟨rfl, HE.out⟩

set_option maxHeartbeats 800000 in
set_option maxRecDepth 100000 in
theorem Take_closed {N : Nat} {F Fc : Nat → Prop} {w : World} {S : Nat} {p : Ps} {dv uv ov : Value} {x : Xs} (h : Hid (Sv N F Fc w S p dv uv ov x)) (hop : x.op = false) (most : Nat) :
    Calls Tryz.prog 16 #[.pointer (some ⟨S, 0, none⟩), .int .i64 0, .int .i64 most] w fun e w' => e = .returned (.string ⟨#[]⟩) ∧ Same w w' := by
  have c0 : w.cell? ⟨S, 0, none⟩ = some (.map (some p.cm)) := cell_of_heap h.out.srv.blk 0
  have hlook := h.out.cms.look 0
  rw [hop] at hlook
  have e1 : aget ([] : List (Int × Nat)) 0 = none := rfl
  simp only [Bool.false_eq_true, if_false, e1, Option.map_none, Option.getD_none, Option.isSome_none] at hlook
  go_enter Tryz.func16, Tryz.ntmps16
  go_wp2
  go_ret
  exact ⟨rfl, Upd.refl _ _⟩

end Go.Proofs.YtkhlhokolfaieaaGreatDoor
