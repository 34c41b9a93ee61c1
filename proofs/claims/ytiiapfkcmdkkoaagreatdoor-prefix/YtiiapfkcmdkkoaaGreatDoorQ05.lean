import Derived.Test.YtiiapfkcmdkkoaaGreatDoorQ04
/-
  readCounted, endHead.
-/
namespace Go.Proofs.YtiiapfkcmdkkoaaGreatDoor
open Go.RowKit

theorem wpList_append_row {ops : Array Oper} {rest : List Oper} {o : Oper} {a : Act} {w : World} {Q : Exit → Act → World → Prop}
    (hg : o.guard = none) (s x : Operand) (hop : o.op = Op.call { callee := Callee.builtin Builtin.append, args := #[s, x], argTypes := #[70, 70] })
    (v : Value) (bs : List UInt8) (hs : a.eval s = v) (hown : Row w v bs) (ad : Addr) (m c : Nat) (news : List UInt8) (hx : a.eval x = .slice (some ad) m c) (hl : news.length = m) (hnews : ∀ j u, (news.map byteV)[j]? = some u → w.cell? (ad.add j) = some u) (hb : bs.length + m ≤ 140737488355328)
    (h : ∀ v' w', Row w' v' (bs ++ news) → w.grownBy w' v.ownBlock → (∀ k, v'.ownBlock = some k → v.ownBlock = some k ∨ w.heap.size ≤ k) → (v' = .slice none 0 0 ↔ v = .slice none 0 0 ∧ m = 0) → wpList Tryz.prog ops Q rest (a.put o.dst v') w') :
    wpList Tryz.prog ops Q (o :: rest) a w := by
  obtain ⟨i0, hi, hz0, hz1, hz2⟩ := info_parts Tryz.info5
  obtain ⟨v', w', hrun, r1, r2, r3, r4⟩ := run_append_row (P := Tryz.prog) w 70 o.type i0 Tryz.und70 hi hz0 hz1 hz2 v bs hown ad m c news hl hnews hb
  refine wpList_plain hg fun K hK => ?_
  unfold Oper.wp execOp
  simp only [hop, resolve, invoke, builtin, Sem.run_bind, Sem.run_pure, Result.andThen_ok, List.map_toArray, List.map_cons, List.map_nil, hs, hx, hrun]
  exact hK _ _ (h v' w' r1 r2 r3 r4)

def RS.counted (σ : RS) (c : UInt8) : RS := if σ.body.length + 1 < σ.length then { σ with body := σ.body ++ [c], tag := 2 } else { σ with body := σ.body ++ [c], tag := 0 }

set_option maxHeartbeats 800000 in
theorem readCounted_makes {F : Nat → Prop} {w : World} {r : Nat} {σ : RS} {nv : Value} {R : Nat → Value} (h : Hid (RdrB F w r σ nv R)) (c : UInt8) (hb : σ.body.length ≤ 1000000) : Makes 190 #[.pointer (some ⟨r, 0, none⟩), .int .u8 c.toNat] F w r (σ.counted c) nv := by
  have hmf : ∀ (fn : Fn) (first cap : Array Value) (w : World), (Instr.makeFunc fn first cap).run Tryz.prog w = .ok (.func fn first cap) w := fun _ _ _ _ => rfl
  have c12 : w.cell? ⟨r, 12, none⟩ = some (R 12) := h.out.cell 12
  have f12 : w.frozen? ⟨r, 12, none⟩ = false := h.out.unfrozen 12
  have c10 : w.cell? ⟨r, 10, none⟩ = some (.int .i64 σ.length) := h.out.cell 10
  have hrl := lt_of_heap h.out.blk
  have i12 : IsRow 12 := by simp [IsRow]
  have hrow : Row w (R 12) σ.body := h.out.row 12 i12
  obtain ⟨ao, ln, cp, hv⟩ : ∃ ao ln cp, R 12 = .slice ao ln cp := by
    rcases hrow.form with ⟨h1, _⟩ | ⟨g, cap, h1⟩
    · exact ⟨_, _, _, h1⟩
    · exact ⟨_, _, _, h1⟩
  have HV : Hid (R 12 = .slice ao ln cp) := hv
  have HR : Hid (Row w (.slice ao ln cp) σ.body) := by rw [← hv]; exact hrow
  rw [hv] at c12
  clear hv hrow
  unfold Makes
  go_enter Tryz.func190, Tryz.ntmps190
  go_wp2_with (at_builtin; refine wpList_append_row rfl (.tmp 9) (.tmp 11) rfl (.slice ao ln cp) σ.body rfl (HR.out.keep ((Upd.refl (fun _ => False) _).alloc _) (fun _ _ h => h)) ⟨w.heap.size, 0, none⟩ 1 1 [c] rfl rfl ?c1 (by omega) ?_)
  case c1 => intro j u hj; match j, hj with | 0, hj => simp at hj; subst hj; simp [Addr.add, byteV]
  intro v2 w1 hrow1 hgr hfr hiff
  have U : Upd (fun k => (Value.slice ao ln cp).ownBlock = some k) w w1 := ((Upd.refl _ _).alloc _).grown hgr (fun k _ h => h)
  have hne : (Value.slice ao ln cp).ownBlock ≠ some r := HR.out.far h.out.blk (by decide)
  have d12 : w1.cell? ⟨r, 12, none⟩ = some (.slice ao ln cp) := (U.cell hrl hne).trans c12
  have g12 : w1.frozen? ⟨r, 12, none⟩ = false := (U.frozen hrl hne).trans f12
  have d10 : w1.cell? ⟨r, 10, none⟩ = some (.int .i64 σ.length) := (U.cell hrl hne).trans c10
  obtain ⟨g, cap2, hv2⟩ : ∃ g cap2, v2 = .slice (some ⟨g, 0, none⟩) (σ.body.length + 1) cap2 := by
    rcases hrow1.form with ⟨_, h1⟩ | ⟨g, cap, h1⟩
    · simp at h1
    · exact ⟨g, cap, by simpa using h1⟩
  subst hv2
  have hfr' : ∀ k, (Value.slice (some ⟨g, 0, none⟩) (σ.body.length + 1) cap2).ownBlock = some k → (R 12).ownBlock = some k ∨ w.heap.size ≤ k := fun k hk => by
    rw [HV.out]
    rcases hfr k hk with h1 | h1
    · exact Or.inl h1
    · right; omega
  have UO := Upd.one w1 r 12 (.slice (some ⟨g, 0, none⟩) (σ.body.length + 1) cap2)
  have U2 : Upd (fun k => k = r ∨ (R 12).ownBlock = some k) w (w1.setCell ⟨r, 12, none⟩ (.slice (some ⟨g, 0, none⟩) (σ.body.length + 1) cap2)) := by
    rw [HV.out]
    exact (U.mono (fun k _ hk => Or.inr hk)).trans (UO.mono (fun k _ hk => Or.inl hk))
  have HG : ∀ t, Hid (RdrB (fun k => F k ∨ (Value.slice (some ⟨g, 0, none⟩) (σ.body.length + 1) cap2).ownBlock = some k) (w1.setCell ⟨r, 12, none⟩ (.slice (some ⟨g, 0, none⟩) (σ.body.length + 1) cap2)) r { σ with body := σ.body ++ [c], tag := t } nv (fun q => if q = 12 then .slice (some ⟨g, 0, none⟩) (σ.body.length + 1) cap2 else R q)) := by
    intro t
    refine h.out.put (σ' := { σ with body := σ.body ++ [c], tag := t }) 12 i12 _ U2 (fun _ _ _ _ hk => hk) (heap_setCell (U.keep h.out.blk hne) 12 _) ?_ hfr' ?_ rfl rfl rfl rfl rfl rfl
    · refine hrow1.keep UO ?_
      rintro k hk rfl
      exact hrow1.far (U.keep h.out.blk hne) (by decide) hk
    · rintro q (rfl | rfl | rfl | rfl | rfl | rfl) hq <;> first | rfl | exact absurd rfl hq
  have HU : Hid (Upd F w (w1.setCell ⟨r, 12, none⟩ (.slice (some ⟨g, 0, none⟩) (σ.body.length + 1) cap2))) := U2.mono (by
    rintro k _ (rfl | hk)
    · exact h.out.fr
    · exact h.out.own 12 i12 k hk)
  have HN : Hid (∀ k, F k ∨ (Value.slice (some ⟨g, 0, none⟩) (σ.body.length + 1) cap2).ownBlock = some k → F k ∨ (w.heap.size ≤ k ∧ k < (w1.setCell ⟨r, 12, none⟩ (.slice (some ⟨g, 0, none⟩) (σ.body.length + 1) cap2)).heap.size)) := by
    rintro k (hk | hk)
    · exact Or.inl hk
    · rcases hfr' k hk with h1 | h1
      · exact Or.inl (h.out.own 12 i12 k h1)
      · right; rw [size_setCell]; exact ⟨h1, hrow1.lt k hk⟩
  have HG2 := HG 2
  have HG0 := HG 0
  clear U hrow1 hgr hfr hiff hne hfr' UO U2 HG
  by_cases hlt : σ.body.length + 1 < σ.length
  · have HS : Hid (σ.counted c = { σ with body := σ.body ++ [c], tag := 2 }) := by show _ = _; unfold RS.counted; rw [if_pos hlt]
    go_wp2
    go_quiet (fail)
    go_wp2
    go_ret
    rw [HS.out]
    exact ⟨_, rfl, _, ⟨⟨_, HG2.out.keep ((Upd.refl (fun _ => False) _).drewN _) (fun _ _ h => h)⟩, rfl⟩, HU.out.drewN _, HN.out⟩
  · have HS : Hid (σ.counted c = { σ with body := σ.body ++ [c], tag := 0 }) := by show _ = _; unfold RS.counted; rw [if_neg hlt]
    go_wp2
    go_quiet (fail)
    go_wp2
    go_ret
    rw [HS.out]
    exact ⟨_, rfl, _, ⟨⟨_, HG0.out.keep ((Upd.refl (fun _ => False) _).drewN _) (fun _ _ h => h)⟩, rfl⟩, HU.out.drewN _, HN.out⟩

end Go.Proofs.YtiiapfkcmdkkoaaGreatDoor

/-
  endHead, endSigns.
-/
namespace Go.Proofs.YtiiapfkcmdkkoaaGreatDoor
open Go.RowKit

theorem Made.from {F : Nat → Prop} {w w1 w2 : World} {r : Nat} {σ : RS} {nv sv : Value} (h : Made F w1 w2 r σ nv sv) (hu : Upd F w w1) : Made F w w2 r σ nv sv := by
  obtain ⟨F', h1, h2, h3⟩ := h
  refine ⟨F', h1, hu.trans h2, fun k hk => ?_⟩
  rcases h3 k hk with h4 | h4
  · exact Or.inl h4
  · right; have := hu.size; omega

theorem Made.then {F : Nat → Prop} {w w1 w2 : World} {r : Nat} {σ : RS} {nv sv : Value} (h : Made F w w1 r σ nv sv) (hu : Upd (fun _ => False) w1 w2) : Made F w w2 r σ nv sv := by
  obtain ⟨F', h1, h2, h3⟩ := h
  refine ⟨F', h1.keep hu (fun _ _ h => h), h2.trans (hu.mono (fun _ _ h => h.elim)), fun k hk => ?_⟩
  rcases h3 k hk with h4 | h4
  · exact Or.inl h4
  · right; have := hu.size; omega

def RS.endHead (σ : RS) : RS := ({ σ with headOver := true, name := [], value := [] } : RS).readBody

set_option maxHeartbeats 400000 in
theorem endHead_makes {F : Nat → Prop} {w : World} {r : Nat} {σ : RS} {nv : Value} {R : Nat → Value} (h : Hid (RdrB F w r σ nv R)) (hl : σ.length ≤ 1000000000) : Makes 183 #[.pointer (some ⟨r, 0, none⟩)] F w r σ.endHead nv := by
  have c2 : w.cell? ⟨r, 2, none⟩ = some (.bool σ.headOver) := h.out.cell 2
  have f2 : w.frozen? ⟨r, 2, none⟩ = false := h.out.unfrozen 2
  have c6 : w.cell? ⟨r, 6, none⟩ = some (R 6) := h.out.cell 6
  have f6 : w.frozen? ⟨r, 6, none⟩ = false := h.out.unfrozen 6
  have c7 : w.cell? ⟨r, 7, none⟩ = some (R 7) := h.out.cell 7
  have f7 : w.frozen? ⟨r, 7, none⟩ = false := h.out.unfrozen 7
  have hu : Upd (fun k => k = r) w (((w.setCell ⟨r, 2, none⟩ (.bool true)).setCell ⟨r, 6, none⟩ (.slice none 0 0)).setCell ⟨r, 7, none⟩ (.slice none 0 0)) := ((Upd.one _ _ _ _).trans (Upd.one _ _ _ _)).trans (Upd.one _ _ _ _)
  have HB : Hid (RdrB F (((w.setCell ⟨r, 2, none⟩ (.bool true)).setCell ⟨r, 6, none⟩ (.slice none 0 0)).setCell ⟨r, 7, none⟩ (.slice none 0 0)) r { σ with headOver := true, name := [], value := [] } nv (fun f => if f = 6 ∨ f = 7 then .slice none 0 0 else R f)) :=
    h.out.upd hu (by have := heap_setCell (heap_setCell (heap_setCell h.out.blk 2 (.bool true)) 6 (.slice none 0 0)) 7 (.slice none 0 0); simpa using this) (by rintro f (rfl | rfl | rfl | rfl | rfl | rfl) <;> first | exact .same _ _ | exact .none _ _)
  have HU : Hid (Upd F w (((w.setCell ⟨r, 2, none⟩ (.bool true)).setCell ⟨r, 6, none⟩ (.slice none 0 0)).setCell ⟨r, 7, none⟩ (.slice none 0 0))) := hu.mono (by rintro k _ rfl; exact h.out.fr)
  clear hu
  unfold Makes
  go_enter Tryz.func183, Tryz.ntmps183
  go_wp2_with fail
  refine Calls.mono (readBody_makes HB hl) ?_
  rintro e w' ⟨sv, rfl, hm⟩
  have HM : Hid (Made F w w' r σ.endHead nv sv) := hm.from HU.out
  clear hm
  go_wp2
  go_ret
  exact ⟨sv, rfl, HM.out⟩

/-- The number that signs tell. -/
def hexDig (c : UInt8) : Nat := if c.toNat ≤ 57 then c.toNat - 48 else if c.toNat ≤ 70 then c.toNat - 55 else c.toNat - 87
def hexVal (l : List UInt8) : Nat := l.foldl (fun n c => n * 16 + hexDig c) 0

def RS.endSigns (σ : RS) : RS :=
  if hexVal σ.signs = 0 then σ.fresh 10
  else if 100 < σ.body.length + hexVal σ.signs then σ.failed 2
  else ({ σ with sz := hexVal σ.signs } : RS).fresh 9

/-- What strconv.ParseInt says of signs, base 16. -/
def ParseHex : Prop := ∀ (s : ByteArray) (w : World), 1 ≤ s.size → s.size ≤ 4 → (∀ c ∈ s.data.toList, isSignB c.toNat = true) →
  Calls Tryz.prog 200 #[.string s, .int .i64 16, .int .i64 32] w fun e w' => e = .returned (.tuple #[.int .i64 (hexVal s.data.toList), .nilIface]) ∧ Upd (fun _ => False) w w'

end Go.Proofs.YtiiapfkcmdkkoaaGreatDoor
