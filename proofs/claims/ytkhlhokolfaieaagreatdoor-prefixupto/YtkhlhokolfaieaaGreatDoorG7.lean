import Derived.Test.YtkhlhokolfaieaaGreatDoorG5
/-
  connection.take, forget, putAside.
-/
namespace Go.Proofs.YtkhlhokolfaieaaGreatDoor
open Go.RowKit Go.MapKept

/-- What a method of the connection leaves: the connection in the state x', nothing else changed but in its own blocks. -/
def ConnX (F : Nat → Prop) (w w' : World) (c : Nat) (x' : CX) : Prop :=
  ∃ F' dv' uv' ov', Cn F' w' c x' dv' uv' ov' ∧ Upd F w w' ∧ (∀ k, F' k → F k ∨ (w.heap.size ≤ k ∧ k < w'.heap.size))

theorem ConnX.after {F : Nat → Prop} {w w1 w2 : World} {c : Nat} {x : CX} (hu : Same w w1) (h : ConnX F w1 w2 c x) : ConnX F w w2 c x := by
  obtain ⟨F', dv, uv, ov, h1, h2, h3⟩ := h
  refine ⟨F', dv, uv, ov, h1, (hu.mono (fun _ _ h => h.elim)).trans h2, fun k hk => ?_⟩
  rcases h3 k hk with h4 | h4
  · exact Or.inl h4
  · have := hu.size; right; omega

/-- 'out' is stored anew. -/
theorem out_anew {F : Nat → Prop} {w w1 : World} {c : Nat} {x : CX} {dv uv ov v' : Value} {bs : List UInt8} (h : Cn F w c x dv uv ov) (hr : Row w1 v' bs) (hu : Upd (fun k => ov.ownBlock = some k) w w1) (ho : v'.ownBlock = ov.ownBlock) :
    ConnX F w (w1.setCell ⟨c, 2, none⟩ v') c { x with out := bs } := by
  have hoc : ov.ownBlock ≠ some c := h.ro.far h.blk (by decide)
  have UO := Upd.one w1 c 2 v'
  have hb1 : w1.heap[c]? = some (.cells #[dv, uv, ov] 58 (0, 0)) := hu.keep h.blk hoc
  have U : Upd (fun k => k = c ∨ ov.ownBlock = some k) w (w1.setCell ⟨c, 2, none⟩ v') := (hu.mono (fun _ _ h => Or.inr h)).trans (UO.mono (fun _ _ h => Or.inl h))
  have hMF : ∀ k, (k = c ∨ ov.ownBlock = some k) → F k := by
    rintro k (rfl | h1)
    · exact h.fc
    · exact h.fo k h1
  refine ⟨F, dv, uv, v', ⟨?_, ?_, ?_, ?_, h.fc, h.fu, ?_, ?_, ?_⟩, U.mono (fun k _ e => hMF k e), fun k hk => Or.inl hk⟩
  · have := heap_setCell hb1 2 v'
    simpa using this
  · refine h.ru.keep U ?_
    rintro k hk (rfl | h1)
    · exact h.ru.far h.blk (by decide) hk
    · exact h.sep k hk h1
  · exact hr.keep UO (by rintro k hk rfl; rw [ho] at hk; exact hoc hk)
  · intro k hk; rw [ho]; exact h.sep k hk
  · intro k hk; rw [ho] at hk; exact h.fo k hk
  · intro k hk; exact Nat.lt_of_lt_of_le (h.lt k hk) U.size
  · rcases h.doing with h1 | ⟨h1, h2, h3, r, Fr, h4, h5, h6⟩ | h1
    · exact Or.inl h1
    · exact Or.inr (Or.inl ⟨h1, h2, h3, r, Fr, h4, h5.keep U (fun k hk e => by rcases e with e | e; exact (h6 k hk).2.1 e; exact (h6 k hk).2.2.2 e), fun k hk => ⟨(h6 k hk).1, (h6 k hk).2.1, (h6 k hk).2.2.1, by rw [ho]; exact (h6 k hk).2.2.2⟩⟩)
    · exact Or.inr (Or.inr h1)

/-- 'unread' is stored anew. -/
theorem unread_anew {F : Nat → Prop} {w w1 : World} {c : Nat} {x : CX} {dv uv ov v' : Value} {bs : List UInt8} (h : Cn F w c x dv uv ov) (hr : Row w1 v' bs) (hu : Upd (fun k => uv.ownBlock = some k) w w1) (ho : v'.ownBlock = uv.ownBlock) :
    ConnX F w (w1.setCell ⟨c, 1, none⟩ v') c { x with unread := bs } := by
  have hoc : uv.ownBlock ≠ some c := h.ru.far h.blk (by decide)
  have UO := Upd.one w1 c 1 v'
  have hb1 : w1.heap[c]? = some (.cells #[dv, uv, ov] 58 (0, 0)) := hu.keep h.blk hoc
  have U : Upd (fun k => k = c ∨ uv.ownBlock = some k) w (w1.setCell ⟨c, 1, none⟩ v') := (hu.mono (fun _ _ h => Or.inr h)).trans (UO.mono (fun _ _ h => Or.inl h))
  have hMF : ∀ k, (k = c ∨ uv.ownBlock = some k) → F k := by
    rintro k (rfl | h1)
    · exact h.fc
    · exact h.fu k h1
  refine ⟨F, dv, v', ov, ⟨?_, ?_, ?_, ?_, h.fc, ?_, h.fo, ?_, ?_⟩, U.mono (fun k _ e => hMF k e), fun k hk => Or.inl hk⟩
  · have := heap_setCell hb1 1 v'
    simpa using this
  · exact hr.keep UO (by rintro k hk rfl; rw [ho] at hk; exact hoc hk)
  · refine h.ro.keep U ?_
    rintro k hk (rfl | h1)
    · exact h.ro.far h.blk (by decide) hk
    · exact h.sep k h1 hk
  · intro k hk; rw [ho] at hk; exact h.sep k hk
  · intro k hk; rw [ho] at hk; exact h.fu k hk
  · intro k hk; exact Nat.lt_of_lt_of_le (h.lt k hk) U.size
  · rcases h.doing with h1 | ⟨h1, h2, h3, r, Fr, h4, h5, h6⟩ | h1
    · exact Or.inl h1
    · exact Or.inr (Or.inl ⟨h1, h2, h3, r, Fr, h4, h5.keep U (fun k hk e => by rcases e with e | e; exact (h6 k hk).2.1 e; exact (h6 k hk).2.2.1 e), fun k hk => ⟨(h6 k hk).1, (h6 k hk).2.1, by rw [ho]; exact (h6 k hk).2.2.1, (h6 k hk).2.2.2⟩⟩)
    · exact Or.inr (Or.inr h1)

theorem row_slice2 {w : World} {v : Value} {bs : List UInt8} (h : Row w v bs) : ∃ ao cp, v = .slice ao bs.length cp ∧ bs.length ≤ cp := by
  rcases h.2 with ⟨h1, h2⟩ | ⟨g', cap', cur, hv, _, hh, hnc, hcm, hcs, htake⟩
  · have : bs.length = 0 := by simpa using h2
    exact ⟨none, 0, by rw [h1, this], by omega⟩
  · exact ⟨_, _, hv, hnc⟩

set_option maxHeartbeats 800000 in
set_option maxRecDepth 100000 in
theorem take_any {F : Nat → Prop} {w : World} {c : Nat} {x : CX} {dv uv ov : Value} (h : Hid (Cn F w c x dv uv ov)) (most : Nat) (hm : x.out.length ≤ most) :
    Calls Tryz.prog 36 #[.pointer (some ⟨c, 0, none⟩), .int .i64 most] w fun e w' => e = .returned (.string ⟨x.out.toArray⟩) ∧ ConnX F w w' c { x with out := [] } := by
  obtain ⟨c0, c1, c2, f0, f1, f2⟩ := h.out.blk'
  obtain ⟨ao, cp, hov, hcp⟩ := row_slice2 h.out.ro
  have hst := row_string h.out.ro
  have hdel := delete_front w ov x.out h.out.ro x.out.length (Nat.le_refl _)
  rw [List.drop_length] at hdel
  have HD := hid hdel
  have hmin : min (most : Int) x.out.length = x.out.length := by omega
  subst hov
  clear hdel
  go_enter Tryz.func36, Tryz.ntmps36
  go_wp2_with fail
  refine HD.out.mono ?_
  rintro e w1 ⟨v', rfl, hr1, hu1, ho1⟩
  have hoc : (Value.slice ao x.out.length cp).ownBlock ≠ some c := h.out.ro.far h.out.blk (by decide)
  have d2 : w1.cell? ⟨c, 2, none⟩ = some (.slice ao x.out.length cp) := (hu1.cell (lt_of_heap h.out.blk) hoc).trans c2
  have g2 : w1.frozen? ⟨c, 2, none⟩ = false := (hu1.frozen (lt_of_heap h.out.blk) hoc).trans f2
  have HE := hid (out_anew h.out hr1 hu1 ho1)
  obtain ⟨ao', cp', rfl⟩ := row_slice hr1
  clear hr1 hu1 ho1 hst
  go_wp2
  go_ret
  exact ⟨rfl, HE.out⟩

set_option maxHeartbeats 800000 in
set_option maxRecDepth 100000 in
/-- forget: so many were read now; all are dropped behind a last answer. -/
theorem forget_any {F : Nat → Prop} {w : World} {c : Nat} {x : CX} {dv uv ov : Value} (h : Hid (Cn F w c x dv uv ov)) (n : Nat) (hn : n ≤ x.unread.length) :
    Calls Tryz.prog 50 #[.pointer (some ⟨c, 0, none⟩), .int .i64 n] w fun e w' => e = .returned (.tuple #[]) ∧ ConnX F w w' c { x with unread := if x.kind = 2 then [] else x.unread.drop n } := by
  obtain ⟨c0, c1, c2, f0, f1, f2⟩ := h.out.blk'
  obtain ⟨ty, rv, f, rfl, hm, hent, hc⟩ := listens_calls h.out
  obtain ⟨ao, cp, hov, hcp⟩ := row_slice2 h.out.ru
  have HC := hid hc
  have huc : uv.ownBlock ≠ some c := h.out.ru.far h.out.blk (by decide)
  have hcl := lt_of_heap h.out.blk
  clear hc
  cases hq : decide (x.kind ≠ 2)
  · have hk : x.kind = 2 := by simpa using hq
    rw [hq] at HC
    rw [if_pos hk]
    clear hq hk
    subst hov
    go_enter Tryz.func50, Tryz.ntmps50
    go_wp2_with fail
    refine (HC.out w).mono ?_
    rintro e w1 ⟨rfl, hu⟩
    have h1 := h.out.keep hu (fun _ _ h => h)
    have HU := hid hu
    have H1 := hid h1
    obtain ⟨d0, d1, d2, e0, e1, e2⟩ := h1.blk'
    clear hu h1
    go_wp2_with fail
    refine (delete_front w1 _ x.unread H1.out.ru x.unread.length (Nat.le_refl _)).mono ?_
    rintro e w2 ⟨v', rfl, hr1, hu1, ho1⟩
    rw [List.drop_length] at hr1
    have d1' : w2.cell? ⟨c, 1, none⟩ = some (.slice ao x.unread.length cp) := (hu1.cell (lt_of_heap H1.out.blk) huc).trans d1
    have g1' : w2.frozen? ⟨c, 1, none⟩ = false := (hu1.frozen (lt_of_heap H1.out.blk) huc).trans e1
    have HE := hid (unread_anew H1.out hr1 hu1 ho1)
    obtain ⟨ao', cp', rfl⟩ := row_slice hr1
    clear hr1 hu1 ho1
    go_wp2
    exact bodyPost_end (v := .tuple #[]) (by simp [results, Tryz.results50, go_sem]) rfl ⟨rfl, ConnX.after HU.out HE.out⟩
  · have hk : x.kind ≠ 2 := by simpa using hq
    rw [hq] at HC
    rw [if_neg hk]
    clear hq hk
    subst hov
    go_enter Tryz.func50, Tryz.ntmps50
    go_wp2_with fail
    refine (HC.out w).mono ?_
    rintro e w1 ⟨rfl, hu⟩
    have h1 := h.out.keep hu (fun _ _ h => h)
    have HU := hid hu
    have H1 := hid h1
    obtain ⟨d0, d1, d2, e0, e1, e2⟩ := h1.blk'
    clear hu h1
    go_wp2_with fail
    refine (delete_front w1 _ x.unread H1.out.ru n hn).mono ?_
    rintro e w2 ⟨v', rfl, hr1, hu1, ho1⟩
    have d1' : w2.cell? ⟨c, 1, none⟩ = some (.slice ao x.unread.length cp) := (hu1.cell (lt_of_heap H1.out.blk) huc).trans d1
    have g1' : w2.frozen? ⟨c, 1, none⟩ = false := (hu1.frozen (lt_of_heap H1.out.blk) huc).trans e1
    have HE := hid (unread_anew H1.out hr1 hu1 ho1)
    obtain ⟨ao', cp', rfl⟩ := row_slice hr1
    rw [List.length_drop] at HE
    clear hr1 hu1 ho1
    go_wp2
    exact bodyPost_end (v := .tuple #[]) (by simp [results, Tryz.results50, go_sem]) rfl ⟨rfl, ConnX.after HU.out HE.out⟩

end Go.Proofs.YtkhlhokolfaieaaGreatDoor

/-
  connection.putAside of nothing.
-/
namespace Go.Proofs.YtkhlhokolfaieaaGreatDoor
open Go.RowKit Go.MapKept

theorem run_append_empty {P : Program} (w : World) (t tx ty : TypeId) (i : TypeInfo) (ht : P.underlying t = some (.slice 5)) (hx : P.underlying tx = some .string) (hi : P.info? 5 = some i) (hsize : i.size = 1) (v : Value) (bs : List UInt8) (h : Row w v bs) :
    (Builtin.append_ #[t, tx] ty #[v, .string ⟨#[]⟩]).run P w = .ok v w := by
  have hsrc : Src P i.size tx (.string ⟨#[]⟩) 0 [] w := by
    rw [hsize]
    exact Src.ofString (P := P) w hx ⟨#[]⟩
  rcases h.2 with ⟨rfl, h1⟩ | ⟨g, cap, cur, rfl, _, hh, hnc, hcm, hcs, htake⟩
  · rcases hsrc.kind with ⟨e', hk⟩ | hk <;> simp [Builtin.append_, run_underlying ht, run_underlying hk, sizeOf, typeInfo, hi, hsrc.len, hsrc.cells]
  · have := run_append_room_src (P := P) w t tx ty 5 i ht hi g 0 bs.length cap (.string ⟨#[]⟩) 0 [] hsrc (by omega) (by intro j hj; simp at hj) (by intro j hj; simp at hj)
    rw [this]
    rfl

theorem step_append_empty {ops : Array Oper} {o : Oper} {a : Act} {w : World} {K : Act → World → Prop} {Q : Exit → Act → World → Prop} {E : Prop}
    (hg : o.guard = none) (s x : Operand) (hop : o.op = Op.call { callee := Callee.builtin Builtin.append, args := #[s, x], argTypes := #[56, 9] })
    (v : Value) (bs : List UInt8) (hs : a.eval s = v) (hown : Row w v bs) (hx : a.eval x = .string ⟨#[]⟩)
    (hK : K (a.put o.dst v) w) :
    if Region.wanted o (yielded ops a.tmps) = true then Oper.wp Tryz.prog o a w K Q else E := by
  have hw : Region.wanted o (yielded ops a.tmps) = true := by simp [Region.wanted, hg]
  rw [if_pos hw]
  obtain ⟨i0, hi, hz0, hz1, hz2⟩ := info_parts Tryz.info5
  have hrun := run_append_empty (P := Tryz.prog) w 56 9 o.type i0 Tryz.und56 Tryz.und9 hi hz1 v bs hown
  unfold Oper.wp
  simp [execOp, hop, resolve, invoke, builtin, hs, hx, hrun, Result.andThen]
  exact hK

set_option maxHeartbeats 800000 in
set_option maxRecDepth 100000 in
theorem putAside_none {F : Nat → Prop} {w : World} {c : Nat} {x : CX} {dv uv ov : Value} (h : Hid (Cn F w c x dv uv ov)) (hl : x.unread.length ≤ 300) :
    Calls Tryz.prog 33 #[.pointer (some ⟨c, 0, none⟩), .string ⟨#[]⟩] w fun e w' => e = .returned (.int .i64 0) ∧ ConnX F w w' c x := by
  obtain ⟨c0, c1, c2, f0, f1, f2⟩ := h.out.blk'
  obtain ⟨ty, rv, f, rfl, hm, hent, hc⟩ := listens_calls h.out
  obtain ⟨ao, cp, hov, hcp⟩ := row_slice2 h.out.ru
  have HC := hid hc
  have huc : uv.ownBlock ≠ some c := h.out.ru.far h.out.blk (by decide)
  have hcl := lt_of_heap h.out.blk
  clear hc
  cases hq : decide (x.kind ≠ 2)
  · rw [hq] at HC
    clear hq
    go_enter Tryz.func33, Tryz.ntmps33
    go_wp2_with fail
    refine (HC.out w).mono ?_
    rintro e w1 ⟨rfl, hu⟩
    have HE : Hid (ConnX F w w1 c x) := ⟨F, _, _, _, h.out.keep hu (fun _ _ h => h), hu.mono (fun _ _ h => h.elim), fun k hk => Or.inl hk⟩
    clear hu
    go_wp2
    go_ret
    exact ⟨rfl, HE.out⟩
  · rw [hq] at HC
    clear hq
    subst hov
    have hmin : min (0 : Int) (300 - x.unread.length) = 0 := by omega
    go_enter Tryz.func33, Tryz.ntmps33
    go_wp2_with fail
    refine (HC.out w).mono ?_
    rintro e w1 ⟨rfl, hu⟩
    have h1 := h.out.keep hu (fun _ _ h => h)
    have HU := hid hu
    have H1 := hid h1
    obtain ⟨d0, d1, d2, e0, e1, e2⟩ := h1.blk'
    clear hu h1
    have HE : Hid (∀ W, Same w1 W → ConnX F w (W.setCell ⟨c, 1, none⟩ (.slice ao x.unread.length cp)) c x) := fun W hW => by
      have := unread_anew H1.out (H1.out.ru.keep hW (fun _ _ h => h)) (hW.mono (fun _ _ h => h.elim)) rfl
      exact ConnX.after HU.out this
    go_wp2_with fail
    go_region_law (
      (refine step_append_empty rfl (.tmp 25) (.tmp 28) rfl (.slice ao x.unread.length cp) x.unread (by simp [Act.eval]) (H1.out.ru.keep (Upd.refl (fun _ => False) w1).drew (fun _ _ h => h)) (by simp [Act.eval]; rfl) ?_))
    all_goals
      go_wp2
      go_ret
      exact ⟨rfl, HE.out _ (Upd.refl _ _).drew⟩

end Go.Proofs.YtkhlhokolfaieaaGreatDoor
