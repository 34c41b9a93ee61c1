import Derived.Test.YtiiapfkcmdkkoaaGreatDoorQ24
/-
  Take.
-/
namespace Go.Proofs.YtiiapfkcmdkkoaaGreatDoor
open Go.RowKit Go.MapKept

theorem ent51 : Ent 51 := enters_of Tryz.func51 (by kernel_rfl) rfl
theorem ent48 : Ent 48 := enters_of Tryz.func48 (by kernel_rfl) rfl

/-- What a Take leaves. -/
def Xs.taken (x : Xs) (id : Int) (z : Cs) : Xs := if z.cx.kind = 2 ∧ z.cx.out = [] then (x.after id z).gone id else x.after id z

/-- out.drop, unread.drop, receive: on a connection. -/
theorem drop_out {F : Nat → Prop} {w : World} {c : Nat} {x : CX} {dv uv ov : Value} (h : Cn F w c x dv uv ov) (most : Nat) :
    Calls Tryz.prog 51 #[.pointer (some ⟨c, 3, none⟩), .int .i64 most] w fun e w' => e = .returned (.string ⟨(x.out.take most).toArray⟩) ∧ ConnX F w w' c { x with out := x.out.drop most } := by
  refine (qdrop_any (hid h.quOut) most).mono ?_
  rintro e w' ⟨rfl, hq⟩
  exact ⟨rfl, out_at h hq⟩
theorem drop_unread {F : Nat → Prop} {w : World} {c : Nat} {x : CX} {dv uv ov : Value} (h : Cn F w c x dv uv ov) (hl : x.unread.length ≤ 300) :
    Calls Tryz.prog 51 #[.pointer (some ⟨c, 2, none⟩), .int .i64 300] w fun e w' => e = .returned (.string ⟨x.unread.toArray⟩) ∧ ConnX F w w' c { x with unread := [] } := by
  refine (qdrop_any (hid h.quUn) 300).mono ?_
  rw [List.take_of_length_le hl, List.drop_eq_nil_of_le hl]
  rintro e w' ⟨rfl, hq⟩
  exact ⟨rfl, unread_at h hq⟩

/-- From one state that was read to the next. -/
theorem ReadX.call {N : Nat} {F G : Nat → Prop} {I : List Int} {W : Wst} {w w1 : World} {c S s m cm wb made : Nat} {dr : Bool} {x1 x2 : CX} {L1 L2 : Texts} {u1 u2 : Int} (h1 : ReadX F G I W w w1 c S s m cm wb made dr x1 L1 u1) (hb : WBy N F G I w S s m wb W) (hl : Lies N F w S s m) (hid2 : x2.id = x1.id) {f : Nat} {args : Array Value} {P : Ending → Prop}
    (hk : ∀ F1 G1 W1 dv uv ov, Cn F1 w1 c x1 dv uv ov → SrvT w1 S s m cm wb made dr L1 u1 → WBy N F1 G1 I w1 S s m wb W1 → Lies N F1 w1 S s m → Settled x1.id x1 W1 → Calls Tryz.prog f args w1 fun e w2 => P e ∧ ReadX F1 G1 I W1 w1 w2 c S s m cm wb made dr x2 L2 u2) :
    Calls Tryz.prog f args w1 fun e w2 => P e ∧ ReadX F G I W w w2 c S s m cm wb made dr x2 L2 u2 := by
  obtain ⟨F1, G1, W1, dv, uv, ov, k1, k2, ⟨q1, q2, q3, q4⟩, k3, k4, k5, k6⟩ := h1
  refine (hk F1 G1 W1 dv uv ov k1 k2 (hb.step hl q1 q2 k5 k6) (hl.step hb.low k3 k4) q4).mono ?_
  rintro e w2 ⟨he, hr⟩
  exact ⟨he, ReadX.trans k3 k4 k5 (by rw [hid2]; exact q3) hr⟩

/-- What waits is dropped: the state ahead of the deadlines. -/
structure Dropped (N : Nat) (F F1 G : Nat → Prop) (I : List Int) (W : Wst) (w w1 : World) (c S s m cm wb made : Nat) (dr : Bool) (x : CX) (L : Texts) (u : Int) : Prop where
  cn : ∃ dv uv ov, Cn F1 w1 c x dv uv ov
  srv : SrvT w1 S s m cm wb made dr L u
  by_ : WBy N F1 G I w1 S s m wb W
  lies : Lies N F1 w1 S s m
  upd : Upd (fun k => F k ∨ k = s ∨ k = m ∨ G k) w w1
  sub : ∀ k, F1 k → F k ∨ (w.heap.size ≤ k ∧ k < w1.heap.size)

theorem Dropped.of {N : Nat} {F G : Nat → Prop} {I : List Int} {W : Wst} {w w1 : World} {c S s m cm wb made : Nat} {dr : Bool} {x : CX} {L : Texts} {u : Int} (hs : SrvT w S s m cm wb made dr L u) (hb : WBy N F G I w S s m wb W) (hl : Lies N F w S s m) (h : ConnX F w w1 c x) : ∃ F1, Dropped N F F1 G I W w w1 c S s m cm wb made dr x L u := by
  obtain ⟨F1, dv, uv, ov, h1, h2, h3⟩ := h
  have hlt := hb.at_.lt
  have U : Upd (fun k => F k ∨ k = s ∨ k = m ∨ G k) w w1 := h2.mono (fun _ _ h => Or.inl h)
  refine ⟨F1, ⟨dv, uv, ov, h1⟩, hs.keep h2 hl.dS hl.ds hl.dm, ⟨hb.at_.keep h2 (fun k hk hk2 => hb.dF k hk2 hk), hb.wf, hb.few, fun k hk hk2 => ?_, hb.dS, hb.ds, hb.dm, hb.low⟩, hl.step hb.low U h3, U, h3⟩
  rcases h3 k hk with h4 | h4
  · exact hb.dF k h4 hk2
  · have := hlt k hk2; omega

/-- The deadline of what waits is struck, and all stand anew. -/
theorem Dropped.clear {N : Nat} {F F1 G : Nat → Prop} {I : List Int} {W : Wst} {w w1 : World} {c S s m cm wb made : Nat} {dr : Bool} {x : CX} {L : Texts} {u : Int} (h : Dropped N F F1 G I W w w1 c S s m cm wb made dr x L u) (d : Dl) :
    Calls Tryz.prog 52 #[.pointer (some ⟨wb, 0, none⟩), .agg #[.int .i64 d.1, .int .i64 d.2]] w1 fun e w2 => e = .returned (.tuple #[]) ∧ Dropped N F F1 G I (W.clear d) w w2 c S s m cm wb made dr x L u := by
  refine (clear_any (hid h.by_.at_) (hid (fun d j hd => (h.by_.wf.fwd d j hd).1)) (hid (fun j hj => by have := h.by_.wf.few hj; have := h.by_.few; omega)) d).mono ?_
  rintro e w2 ⟨rfl, k1, k2⟩
  obtain ⟨dv, uv, ov, hc⟩ := h.cn
  have hsz := k2.size
  refine ⟨rfl, ⟨dv, uv, ov, hc.keep k2 h.by_.dF⟩, h.srv.keep k2 h.by_.dS h.by_.ds h.by_.dm, ⟨k1, h.by_.wf.clear d, h.by_.few, h.by_.dF, h.by_.dS, h.by_.ds, h.by_.dm, h.by_.low⟩, ?_, h.upd.trans (k2.mono (fun _ _ h => Or.inr (Or.inr (Or.inr h)))), fun k hk => ?_⟩
  · exact h.lies.step (G := G) h.by_.low (k2.mono (fun _ _ h => Or.inr (Or.inr (Or.inr h)))) (fun k hk => Or.inl hk)
  · rcases h.sub k hk with h4 | h4
    · exact Or.inl h4
    · right; omega
theorem Dropped.settle {N : Nat} {F F1 G : Nat → Prop} {I : List Int} {W W0 : Wst} {w w1 : World} {c S s m cm wb made : Nat} {dr : Bool} {x : CX} {L : Texts} {u : Int} (h : Dropped N F F1 G I W w w1 c S s m cm wb made dr x L u) (hI : x.id ∈ I) (h0 : WStep x.id W0 W) :
    Calls Tryz.prog 27 #[.pointer (some ⟨S, 0, none⟩), .pointer (some ⟨c, 0, none⟩)] w1 fun e w2 => e = .returned (.tuple #[]) ∧ ReadX F G I W0 w w2 c S s m cm wb made dr x L u := by
  obtain ⟨dv, uv, ov, hc⟩ := h.cn
  refine (settle_after (w := w1) ⟨F1, dv, uv, ov, hc, h.srv, Upd.refl _ _, fun k hk => Or.inl hk⟩ h.by_ hI h.lies.tb ⟨h.lies.low, h.lies.ns, h.lies.nm, h.lies.nw⟩).mono ?_
  rintro e w2 ⟨rfl, hr⟩
  exact ⟨rfl, ReadX.trans h.upd h.sub (fun k hk => Or.inl hk) h0 hr⟩

set_option maxHeartbeats 800000 in
set_option maxRecDepth 100000 in
/-- closeIfDone. -/
theorem closeIf_any {N : Nat} {F : Nat → Prop} {Fs : Int → Nat → Prop} {w : World} {S : Nat} {p : Ps} {x : Xs} (h : Hid (Sv N F Fs w S p x)) {id : Int} {c : Nat} {cx : CX} (hg : Hid (aget x.K id = some (c, cx))) :
    Calls Tryz.prog 53 #[.pointer (some ⟨S, 0, none⟩), .pointer (some ⟨c, 0, none⟩)] w fun e w' => e = .returned (.tuple #[]) ∧ SvX N F w w' S p (if cx.kind = 2 ∧ cx.out = [] then x.gone id else x) := by
  have he := aget_mem hg.out
  obtain ⟨dv, uv, ov, hc⟩ := h.out.cn _ he
  have hid0 : cx.id = id := h.out.idk _ he
  have HD := hid (isDone_any (hid hc))
  have HC1 : Hid (∀ W, Same w W → W.cell? ⟨c, 1, none⟩ = some (.int .i64 id) ∧ c < W.heap.size) := fun W hW => by
    have hb := (hc.keep hW (fun _ _ h => h)).blk
    rw [hid0] at hb
    exact ⟨cell_of_heap hb 1, lt_of_heap hb⟩
  have HCl : Hid (∀ W, Same w W → Calls Tryz.prog 50 #[.pointer (some ⟨S, 0, none⟩), .int .i64 id] W fun e w' => e = .returned (.tuple #[]) ∧ SvX N F w w' S p (x.gone id)) := fun W hW => by
    refine (close_any (hid (h.out.same hW)) id).mono ?_
    rintro e w' ⟨rfl, hs⟩
    exact ⟨rfl, SvX.trans (hW.mono (fun _ _ h => h.elim)) (fun _ hk => Or.inl hk) hs⟩
  have HS : Hid (∀ W, Same w W → SvX N F w W S p x) := fun W hW => h.out.svx hW
  clear hc he h hg
  by_cases hdone : cx.kind = 2 ∧ cx.out = []
  · have ed : decide (cx.kind = 2 ∧ cx.out = []) = true := decide_eq_true hdone
    rw [ed] at HD
    rw [if_pos hdone]
    clear hdone ed
    go_enter Tryz.func53, Tryz.ntmps53
    go_wp2_with fail
    refine HD.out.mono ?_
    rintro e w1 ⟨rfl, hu1⟩
    obtain ⟨e1, e2⟩ := HC1.out w1 hu1
    have HCl1 := hid (HCl.out w1 hu1)
    clear hu1 HD
    go_wp2_with fail
    refine HCl1.out.mono ?_
    rintro e w2 ⟨rfl, hs⟩
    have HE := hid hs
    clear hs
    go_wp2
    exact bodyPost_end (v := .tuple #[]) (by simp [results, Tryz.results53, go_sem]) rfl ⟨rfl, HE.out⟩
  · have ed : decide (cx.kind = 2 ∧ cx.out = []) = false := decide_eq_false hdone
    rw [ed] at HD
    rw [if_neg hdone]
    clear hdone ed
    go_enter Tryz.func53, Tryz.ntmps53
    go_wp2_with fail
    refine HD.out.mono ?_
    rintro e w1 ⟨rfl, hu1⟩
    have HE := hid (HS.out w1 hu1)
    clear hu1 HD
    go_wp2
    exact bodyPost_end (v := .tuple #[]) (by simp [results, Tryz.results53, go_sem]) rfl ⟨rfl, HE.out⟩

end Go.Proofs.YtiiapfkcmdkkoaaGreatDoor

/-
  Take.
-/
namespace Go.Proofs.YtiiapfkcmdkkoaaGreatDoor
open Go.RowKit Go.MapKept

set_option maxHeartbeats 1600000 in
set_option maxRecDepth 100000 in
theorem Take_open {N : Nat} {F : Nat → Prop} {Fs : Int → Nat → Prop} {w : World} {S : Nat} {p : Ps} {x : Xs} (h : Hid (Sv N F Fs w S p x)) {id : Int} {c : Nat} {cx : CX} (hg : Hid (aget x.K id = some (c, cx))) (most : Nat) (h1 : 1 ≤ most) :
    Calls Tryz.prog 22 #[.pointer (some ⟨S, 0, none⟩), .int .i64 id, .int .i64 most] w fun e w' => e = .returned (.string ⟨(cx.out.take most).toArray⟩) ∧ SvX N F w w' S p (x.taken id (Cs.take x.dr ⟨cx, x.L, x.u⟩ most)) := by
  have c0 : w.cell? ⟨S, 0, none⟩ = some (.map (some p.cm)) := cell_of_heap h.out.srv.blk 0
  have hlook := h.out.cms.look id
  rw [aget_kmap, hg.out] at hlook
  simp only [Option.map_some, Option.getD_some, Option.isSome_some] at hlook
  unfold ptrV at hlook
  have he := aget_mem hg.out
  obtain ⟨dv, uv, ov, hc⟩ := h.out.cn _ he
  obtain ⟨G, W, hw⟩ := h.out.wh
  have hid0 : cx.id = id := h.out.idk _ he
  have HK := hid (h.out.ki _ he)
  have HD := hid (drop_out hc most)
  have HL := hid (h.out.lies he)
  have HB := hid (h.out.by_ he hw)
  have HW := hid hw
  have hmem : cx.id ∈ x.K.map (·.1) := by rw [hid0]; exact List.mem_map.2 ⟨_, he, rfl⟩
  clear hc he hw
  go_enter Tryz.func22, Tryz.ntmps22
  go_wp2_with fail
  refine HD.out.mono ?_
  rintro e w1 ⟨rfl, hcx⟩
  obtain ⟨F1, hd1⟩ := Dropped.of h.out.srv HB.out HL.out hcx
  have s4 : w1.cell? ⟨S, 4, none⟩ = some (.pointer (some ⟨p.wb, 0, none⟩)) := cell_of_heap hd1.srv.blk 4
  have HC1 := hid (hd1.clear (id, 3))
  clear hcx hd1 hlook c0 HD
  go_wp2_with fail
  refine HC1.out.mono ?_
  rintro e w2 ⟨rfl, hd2⟩
  have HC2 := hid (hd2.settle (W0 := W) hmem (by show WStep cx.id W _; rw [hid0]; exact HW.out.wf.clearStep (id, 3)))
  clear hd2 HC1 s4
  go_wp2_with fail
  refine HC2.out.mono ?_
  rintro e w3 ⟨rfl, hr3⟩
  have HC3 : Hid (Calls Tryz.prog 51 #[.pointer (some ⟨c, 2, none⟩), .int .i64 300] w3 fun e w4 => (e = .returned (.string ⟨cx.unread.toArray⟩)) ∧ ReadX (Fs id) G (x.K.map (·.1)) W w w4 c S p.s p.m p.cm p.wb x.made x.dr { cx with out := cx.out.drop most, unread := [] } x.L x.u) := by
    refine ReadX.call (P := fun e => e = .returned (.string ⟨cx.unread.toArray⟩)) (x2 := { cx with out := cx.out.drop most, unread := [] }) (L2 := x.L) (u2 := x.u) hr3 HB.out HL.out rfl ?_
    intro F1 G1 W1 dv uv ov k1 k2 k3 k4 k5
    refine (drop_unread k1 HK.out.un).mono ?_
    rintro e w4 ⟨rfl, hcn⟩
    exact ⟨rfl, ReadX.ofConn k2 k4.dS k4.ds k4.dm k3 (k5.unread []) hcn⟩
  clear hr3 HC2
  go_wp2_with fail
  refine HC3.out.mono ?_
  rintro e w4 ⟨rfl, hr4⟩
  have HC4 : Hid (Calls Tryz.prog 48 #[.pointer (some ⟨S, 0, none⟩), .pointer (some ⟨c, 0, none⟩), .string ⟨cx.unread.toArray⟩] w4 fun e w5 => (∃ n, e = .returned (.int .i64 n)) ∧ SvX N F w w5 S p (x.after id (Cs.take x.dr ⟨cx, x.L, x.u⟩ most))) := by
    have hbz : (⟨cx.unread.toArray⟩ : ByteArray).size ≤ 140737488355328 := by
      have := HK.out.un
      show cx.unread.toArray.size ≤ _
      simp
      omega
    have e0 : (⟨cx.unread.toArray⟩ : ByteArray).data.toList = cx.unread := rfl
    have e1 : Cs.got x.dr ⟨{ cx with out := cx.out.drop most, unread := [] }, x.L, x.u⟩ cx.unread = Cs.take x.dr ⟨cx, x.L, x.u⟩ most := rfl
    refine (ReadX.call (P := fun e => ∃ n, e = .returned (.int .i64 n)) (x2 := (Cs.take x.dr ⟨cx, x.L, x.u⟩ most).cx) (L2 := (Cs.take x.dr ⟨cx, x.L, x.u⟩ most).L) (u2 := (Cs.take x.dr ⟨cx, x.L, x.u⟩ most).u) hr4 HB.out HL.out (cs_take_id _ _ _) ?_).mono ?_
    · intro F1 G1 W1 dv uv ov k1 k2 k3 k4 k5
      have HI : CsI ⟨{ cx with out := cx.out.drop most, unread := [] }, x.L, x.u⟩ := ⟨⟨HK.out.ci.rd, HK.out.ci.tag, HK.out.ci.kind⟩, h.out.ti, by have := HK.out.out; show (cx.out.drop most).length ≤ 449; simp; omega⟩
      have HR := receive_any (hid k1) (hid k2) (hid k4) (hid HI) (Nat.zero_le _) ⟨cx.unread.toArray⟩ hbz (hid k3) hmem (hid k5)
      rw [e0, e1] at HR
      refine HR.mono ?_
      rintro e w5 ⟨rfl, hr⟩
      exact ⟨⟨_, rfl⟩, hr⟩
    · rintro e w5 ⟨he, hr⟩
      have hq := HK.out.take h.out.ti x.dr most
      exact ⟨he, h.out.upd hg.out HW.out hr ((cs_take_id _ _ _).trans hid0) hq.1 hq.2⟩
  clear hr4 HC3
  go_wp2_with fail
  refine HC4.out.mono ?_
  rintro e w5 ⟨⟨n, rfl⟩, hsv⟩
  have HC5 : Hid (Calls Tryz.prog 53 #[.pointer (some ⟨S, 0, none⟩), .pointer (some ⟨c, 0, none⟩)] w5 fun e w6 => e = .returned (.tuple #[]) ∧ SvX N F w w6 S p (x.taken id (Cs.take x.dr ⟨cx, x.L, x.u⟩ most))) := by
    obtain ⟨F5, Fs5, s1, s2, s3⟩ := hsv
    refine (closeIf_any (hid s1) (hid (aget_kset x.K id _ hg.out))).mono ?_
    rintro e w6 ⟨rfl, hs6⟩
    exact ⟨rfl, SvX.trans s2 s3 hs6⟩
  clear hsv HC4
  go_wp2_with fail
  refine HC5.out.mono ?_
  rintro e w6 ⟨rfl, hs6⟩
  have HE := hid hs6
  clear hs6
  go_wp2
  go_ret
  exact ⟨rfl, HE.out⟩

set_option maxHeartbeats 800000 in
set_option maxRecDepth 100000 in
theorem Take_none {N : Nat} {F : Nat → Prop} {Fs : Int → Nat → Prop} {w : World} {S : Nat} {p : Ps} {x : Xs} (h : Hid (Sv N F Fs w S p x)) {id : Int} (hg : Hid (aget x.K id = none)) (most : Int) :
    Calls Tryz.prog 22 #[.pointer (some ⟨S, 0, none⟩), .int .i64 id, .int .i64 most] w fun e w' => e = .returned (.string ⟨#[]⟩) ∧ Same w w' := by
  have c0 : w.cell? ⟨S, 0, none⟩ = some (.map (some p.cm)) := cell_of_heap h.out.srv.blk 0
  have hlook := h.out.cms.look id
  rw [aget_kmap, hg.out] at hlook
  simp only [Option.map_none, Option.getD_none, Option.isSome_none] at hlook
  go_enter Tryz.func22, Tryz.ntmps22
  go_wp2
  go_ret
  exact ⟨rfl, Upd.refl _ _⟩

set_option maxHeartbeats 800000 in
set_option maxRecDepth 100000 in
theorem Take_less {N : Nat} {F : Nat → Prop} {Fs : Int → Nat → Prop} {w : World} {S : Nat} {p : Ps} {x : Xs} (h : Hid (Sv N F Fs w S p x)) {id : Int} {c : Nat} {cx : CX} (hg : Hid (aget x.K id = some (c, cx))) (most : Int) (h1 : most < 1) :
    Calls Tryz.prog 22 #[.pointer (some ⟨S, 0, none⟩), .int .i64 id, .int .i64 most] w fun e w' => e = .returned (.string ⟨#[]⟩) ∧ Same w w' := by
  have c0 : w.cell? ⟨S, 0, none⟩ = some (.map (some p.cm)) := cell_of_heap h.out.srv.blk 0
  have hlook := h.out.cms.look id
  rw [aget_kmap, hg.out] at hlook
  simp only [Option.map_some, Option.getD_some, Option.isSome_some] at hlook
  unfold ptrV at hlook
  go_enter Tryz.func22, Tryz.ntmps22
  go_wp2
  go_ret
  exact ⟨rfl, Upd.refl _ _⟩

end Go.Proofs.YtiiapfkcmdkkoaaGreatDoor
