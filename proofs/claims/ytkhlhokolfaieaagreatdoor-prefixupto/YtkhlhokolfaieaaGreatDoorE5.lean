import Derived.Test.YtkhlhokolfaieaaGreatDoorE3
import Derived.Deep.DeepCutAuto
/-
  Server.read, walked: the request is over.
-/
namespace Go.Proofs.YtkhlhokolfaieaaGreatDoor
open Go.RowKit Go.MapKept

/-- A call of a function of one argument, as one step of a region that draws. -/
theorem step_call1 {ops : Array Oper} {o : Oper} {a : Act} {w : World} {K : Act → World → Prop} {Q : Exit → Act → World → Prop} {E : Prop} {f : Nat} {v : Value} {ts : Array TypeId} (R : Value → World → Prop)
    (hg : o.guard = none) (x : Operand) (hop : o.op = Op.call { callee := Callee.value (.func f), args := #[x], argTypes := ts }) (hent : Ent f) (hx : a.eval x = v)
    (hc : Calls Tryz.prog f #[v] w fun e w' => ∃ r, e = .returned r ∧ R r w') (hK : ∀ r w', R r w' → K (a.put o.dst r) w') :
    if Region.wanted o (yielded ops a.tmps) = true then Oper.wp Tryz.prog o a w K Q else E := by
  have hw : Region.wanted o (yielded ops a.tmps) = true := by simp [Region.wanted, hg]
  rw [if_pos hw]
  have hrun : (execOp a.eval o).run Tryz.prog w = .ok (.enter f #[v]) w := by
    have hf : a.eval (.func f) = .func (.func f) #[] #[] := rfl
    have he := hent #[v] w
    simp [execOp, hop, resolve, invoke, hf, hx, Deferred.ofValue, he]
  unfold Oper.wp
  rw [hrun, Oper.upon_enter]
  refine hc.mono ?_
  rintro e w' ⟨r, rfl, hR⟩
  exact hK r w' hR

end Go.Proofs.YtkhlhokolfaieaaGreatDoor

/-
  Server.read, walked: the request is over, and answered.
-/
namespace Go.Proofs.YtkhlhokolfaieaaGreatDoor
open Go.RowKit Go.MapKept

theorem ent48 : Ent 48 := enters_of Tryz.func48 (by kernel_rfl) rfl

/-- What stands behind what waits. -/
def OutAt (w4 wx : World) (c : Nat) (dv uv ov : Value) (out : List UInt8) : Prop :=
  ∃ ov', Row wx ov' out ∧ wx.heap[c]? = some (.cells #[dv, uv, ov'] 58 (0, 0)) ∧ Upd (fun k => k = c ∨ ov.ownBlock = some k) w4 wx ∧ (∀ k, ov'.ownBlock = some k → ov.ownBlock = some k ∨ (w4.heap.size ≤ k ∧ k < wx.heap.size))

theorem out_stored {w4 w5 w6 : World} {c : Nat} {dv uv ov ov' : Value} {out more : List UInt8} (hc : w4.heap[c]? = some (.cells #[dv, uv, ov] 58 (0, 0))) (ho : Row w4 ov out) (hu5 : Upd (fun _ => False) w4 w5) (hrow : Row w6 ov' (out ++ more)) (hg : w5.grownBy w6 ov.ownBlock) (hf : ∀ k, ov'.ownBlock = some k → ov.ownBlock = some k ∨ w5.heap.size ≤ k) :
    OutAt w4 (w6.setCell ⟨c, 2, none⟩ ov') c dv uv ov (out ++ more) := by
  have hoc : ov.ownBlock ≠ some c := ho.far hc (by decide)
  have U : Upd (fun k => ov.ownBlock = some k) w4 w6 := (hu5.mono (fun _ _ h => h.elim)).grown hg (fun k _ h => h)
  have hc6 : w6.heap[c]? = some (.cells #[dv, uv, ov] 58 (0, 0)) := U.keep hc hoc
  refine ⟨ov', hrow.keep (Upd.one w6 c 2 ov') (by rintro k hk rfl; exact hrow.far hc6 (by decide) hk), ?_, (U.mono (fun k _ h => Or.inr h)).trans ((Upd.one _ _ _ _).mono (fun k _ h => Or.inl h)), fun k hk => ?_⟩
  · have := heap_setCell hc6 2 ov'
    simpa using this
  · rcases hf k hk with h1 | h1
    · exact Or.inl h1
    · right; rw [size_setCell]; exact ⟨Nat.le_trans hu5.size h1, hrow.lt k hk⟩

theorem bytes_pos (a : Ans) : a.bytes ≠ [] := by
  unfold Ans.bytes httpL
  simp
theorem bytes_len (a : Ans) (h1 : a.status.length ≤ 100) (h2 : a.length ≤ 100) (h3 : a.text.length ≤ 100) : a.bytes.length ≤ 400 := by
  have hi := itoa_len a.length h2
  unfold Ans.bytes httpL crlf clL ccL
  simp only [List.length_append]
  split <;> split <;> simp <;> omega

/-- The answer stands behind what waits: what was promised of reading. -/
theorem answered {F : Nat → Prop} {w w4 wx : World} {c S s m cm made : Nat} {dr : Bool} {x x' : CX} {dv dv4 dv' uv ov ov' : Value} {L' : Texts} {u' : Int} (h : Hid (Cn F w c x dv uv ov)) (HU4 : Hid (Upd (fun k => F k ∨ k = s ∨ k = m) w w4)) (HB4 : Hid (w4.heap[c]? = some (.cells #[dv4, uv, ov] 58 (0, 0)))) (HRU4 : Hid (Row w4 uv x.unread)) (HS4 : Hid (SrvT w4 S s m cm made dr L' u'))
    (o1 : Row wx ov' x'.out) (o2 : wx.heap[c]? = some (.cells #[dv', uv, ov'] 58 (0, 0))) (o3 : Upd (fun k => k = c ∨ ov.ownBlock = some k) w4 wx) (o4 : ∀ k, ov'.ownBlock = some k → ov.ownBlock = some k ∨ (w4.heap.size ≤ k ∧ k < wx.heap.size)) (hd : (x'.kind = 0 ∧ dv' = restingV) ∨ (x'.kind = 2 ∧ dv' = leavingV)) (hun : x'.unread = x.unread) (dS : ¬ F S) (ds : ¬ F s) (dm : ¬ F m) :
    ReadX F w wx c S s m cm made dr x' L' u' := by
  have hMF : ∀ k, (k = c ∨ ov.ownBlock = some k) → F k := by
    rintro k (rfl | h1)
    · exact h.out.fc
    · exact h.out.fo k h1
  have s1 := HU4.out.size
  have s2 := o3.size
  refine ⟨fun k => F k ∨ (w4.heap.size ≤ k ∧ k < wx.heap.size), dv', uv, ov', ⟨o2, ?_, o1, ?_, Or.inl h.out.fc, fun k hk => Or.inl (h.out.fu k hk), ?_, ?_, ?_⟩, ?_, ?_, ?_⟩
  · rw [hun]
    refine HRU4.out.keep o3 ?_
    rintro k hk (rfl | h1)
    · exact HRU4.out.far HB4.out (by decide) hk
    · exact h.out.sep k hk h1
  · intro k hk h1
    rcases o4 k h1 with h2 | h2
    · exact h.out.sep k hk h2
    · have := HRU4.out.lt k hk; omega
  · intro k hk
    rcases o4 k hk with h2 | h2
    · exact Or.inl (h.out.fo k h2)
    · exact Or.inr h2
  · rintro k (hk | hk)
    · have := h.out.lt k hk; omega
    · exact hk.2
  · rcases hd with h1 | h1
    · exact Or.inl h1
    · exact Or.inr (Or.inr h1)
  · exact HS4.out.keep o3 (fun e => dS (hMF _ e)) (fun e => ds (hMF _ e)) (fun e => dm (hMF _ e))
  · exact HU4.out.trans (o3.mono (fun k _ e => Or.inl (hMF k e)))
  · rintro k (hk | hk)
    · exact Or.inl hk
    · exact Or.inr ⟨by omega, hk.2⟩

theorem answered_last {F : Nat → Prop} {w w4 wx : World} {c S s m cm made : Nat} {dr : Bool} {x x' : CX} {dv dv4 dv' uv ov ov' : Value} {L' : Texts} {u' : Int} (h : Hid (Cn F w c x dv uv ov)) (HU4 : Hid (Upd (fun k => F k ∨ k = s ∨ k = m) w w4)) (HB4 : Hid (w4.heap[c]? = some (.cells #[dv4, uv, ov] 58 (0, 0)))) (HRU4 : Hid (Row w4 uv x.unread)) (HS4 : Hid (SrvT w4 S s m cm made dr L' u'))
    (o1 : Row wx ov' x'.out) (o2 : wx.heap[c]? = some (.cells #[dv', uv, ov'] 58 (0, 0))) (o3 : Upd (fun k => k = c ∨ ov.ownBlock = some k) w4 wx) (o4 : ∀ k, ov'.ownBlock = some k → ov.ownBlock = some k ∨ (w4.heap.size ≤ k ∧ k < wx.heap.size)) (hd : x'.kind = 2) (hun : x'.unread = x.unread) (dS : ¬ F S) (ds : ¬ F s) (dm : ¬ F m) :
    ReadX F w (wx.setCell ⟨c, 0, none⟩ leavingV) c S s m cm made dr x' L' u' := by
  have UO := Upd.one wx c 0 leavingV
  refine answered h HU4 HB4 HRU4 HS4 (ov' := ov') (dv' := leavingV) (o1.keep UO (by rintro k hk rfl; exact o1.far o2 (by decide) hk)) ?_ (o3.trans (UO.mono (fun k _ e => Or.inl e))) ?_ (Or.inr ⟨hd, rfl⟩) hun dS ds dm
  · have := heap_setCell o2 0 leavingV
    simpa using this
  · rw [size_setCell]; exact o4

set_option maxHeartbeats 1600000 in
set_option maxRecDepth 100000 in
theorem sread_over {N : Nat} {F : Nat → Prop} {w : World} {c S s m cm made : Nat} {dr : Bool} {x : CX} {dv uv ov : Value} {L : Texts} {u : Int} (h : Hid (Cn F w c x dv uv ov)) (hs : Hid (SrvT w S s m cm made dr L u)) (dS : ¬ F S) (ds : ¬ F s) (dm : ¬ F m)
    (hk : x.kind ≠ 2) (hct : x.σ.count ≤ 1000000000) (b : UInt8) (g2 : Hid (Good (x.rd.read b))) (ht : (x.rd.read b).tag = 0) (hbody : (x.rd.read b).body.length ≤ 100)
    (hL : Hid (∀ p ∈ L, p.2.length ≤ 100)) (hu0 : -100000 ≤ u) (hu1 : u ≤ 100000) (hout : x.out.length ≤ 100000) (hT : Hid (Tb N w)) (hN : Hid ((∀ k, F k → N ≤ k) ∧ N ≤ s ∧ N ≤ m ∧ N ≤ w.heap.size))
    (hans : Hid ((replyAns L u dr (x.rd.read b).req).status.length ≤ 100 ∧ (replyAns L u dr (x.rd.read b).req).length ≤ 100 ∧ (replyAns L u dr (x.rd.read b).req).text.length ≤ 100)) :
    Calls Tryz.prog 32 #[.pointer (some ⟨S, 0, none⟩), .pointer (some ⟨c, 0, none⟩), .int .u8 b.toNat] w fun e w' => e = .returned (.tuple #[]) ∧ ReadX F w w' c S s m cm made dr (x.next L u dr b) (x.nextL L u b) (x.nextU L u b) := by
  have HX : Hid (x.next L u dr b = { x with kind := if (replyAns L u dr (x.rd.read b).req).last then 2 else 0, out := x.out ++ (replyAns L u dr (x.rd.read b).req).bytes } ∧ x.nextL L u b = replyL L u (x.rd.read b).req ∧ x.nextU L u b = replyU L u (x.rd.read b).req) := by
    show _ ∧ _ ∧ _
    unfold CX.next CX.nextL CX.nextU; rw [if_pos ht, if_pos ht, if_pos ht]; exact ⟨rfl, rfl, rfl⟩
  rw [HX.out.1, HX.out.2.1, HX.out.2.2]
  clear HX
  generalize hA : replyAns L u dr (x.rd.read b).req = a at hans ⊢
  generalize hA1 : replyL L u (x.rd.read b).req = L'
  generalize hA2 : replyU L u (x.rd.read b).req = u'
  generalize hkd : (if a.last then 2 else 0) = kd
  have HQ : Hid ((x.rd.read b).req.target.length ≤ 1000 ∧ (x.rd.read b).req.body.length ≤ 100) := ⟨by show (47 :: (x.rd.read b).path).length ≤ 1000; have := g2.out.size 5 (by simp [IsRow]); simp only [RS.get] at this; simp; omega, hbody⟩
  obtain ⟨ty, rv, f, G, rfl, hm, hent, hG, hcall⟩ := doing_calls h.out hk hct b g2.out
  obtain ⟨c0, c1, c2, f0, f1, f2⟩ := h.out.blk'
  have hcl := lt_of_heap h.out.blk
  have HG := hid hG
  have HC := hid hcall
  have HT0 := hid ht
  have hcS : c ≠ S := fun e => dS (e ▸ h.out.fc)
  have hcs : c ≠ s := fun e => ds (e ▸ h.out.fc)
  have hcm : c ≠ m := fun e => dm (e ▸ h.out.fc)
  clear hG hcall ht hbody
  generalize x.rd.read b = σ' at *
  go_enter Tryz.func32, Tryz.ntmps32
  go_wp2_with fail
  refine HC.out.mono ?_
  rintro e w1 ⟨r, F1, k1, k2, k3, k4⟩
  obtain ⟨p, rfl, hp1, hp2, hp3⟩ : ∃ p, e = .returned (.tuple #[restingV, .pointer (some ⟨p, 0, none⟩)]) ∧ w1.heap[p]? = some (.cells (reqCells σ'.req) 93 (0, 0)) ∧ w.heap.size ≤ p ∧ p < w1.heap.size := by
    rcases k4 with ⟨k5, _⟩ | ⟨_, p, h1, h2, h3, h4⟩
    · exact absurd HT0.out k5
    · exact ⟨p, h1, h2, h3, h4⟩
  clear k4
  have hcn : ¬ G c := fun e => (HG.out c e).2.1 rfl
  have d0 : w1.cell? ⟨c, 0, none⟩ = some (.iface ty rv) := (k2.cell hcl hcn).trans c0
  have g0 : w1.frozen? ⟨c, 0, none⟩ = false := (k2.frozen hcl hcn).trans f0
  have hpc : p ≠ c := by omega
  -- behind the store of what it does now
  have U1 : Upd F w w1 := k2.mono (fun k _ hk => (HG.out k hk).1)
  have UO := Upd.one w1 c 0 restingV
  have U2 : Upd F w (w1.setCell ⟨c, 0, none⟩ restingV) := U1.trans (UO.mono (by rintro k _ rfl; exact h.out.fc))
  have hb1 : w1.heap[c]? = some (.cells #[.iface ty rv, uv, ov] 58 (0, 0)) := k2.keep h.out.blk hcn
  have hb2 : (w1.setCell ⟨c, 0, none⟩ restingV).heap[c]? = some (.cells #[restingV, uv, ov] 58 (0, 0)) := by
    have := heap_setCell hb1 0 restingV
    simpa using this
  have ru1 : Row w1 uv x.unread := h.out.ru.keep k2 (fun k hk e => (HG.out k e).2.2.1 hk)
  have ro1 : Row w1 ov x.out := h.out.ro.keep k2 (fun k hk e => (HG.out k e).2.2.2 hk)
  have ru2 : Row (w1.setCell ⟨c, 0, none⟩ restingV) uv x.unread := ru1.keep UO (by rintro k hk rfl; exact ru1.far hb1 (by decide) hk)
  have ro2 : Row (w1.setCell ⟨c, 0, none⟩ restingV) ov x.out := ro1.keep UO (by rintro k hk rfl; exact ro1.far hb1 (by decide) hk)
  have hS2 : SrvT (w1.setCell ⟨c, 0, none⟩ restingV) S s m cm made dr L u := hs.out.keep U2 dS ds dm
  have hp2' : (w1.setCell ⟨c, 0, none⟩ restingV).heap[p]? = some (.cells (reqCells σ'.req) 93 (0, 0)) := UO.keep hp1 hpc
  have HK := reply_any (hid hS2) σ'.req HQ.out.1 HQ.out.2 hL hu0 hu1
  rw [hA, hA1, hA2] at HK
  replace HK := hid HK
  clear hA hA1 hA2
  have HU2 := hid U2
  have HB2 := hid hb2
  have HRU := hid ru2
  have HRO := hid ro2
  clear k1 k2 k3 hcn U1 UO U2 hb1 hb2 ru1 ro1 ru2 ro2 hS2 hp1 HC
  have hsz2 : (w1.setCell ⟨c, 0, none⟩ restingV).heap.size = w1.heap.size := size_setCell _ _ _
  have hsz12 : w.heap.size ≤ w1.heap.size := by have := HU2.out.size; rw [hsz2] at this; exact this
  have q0 := cell_of_heap hp2' 0
  have q1 := cell_of_heap hp2' 1
  have q2 := cell_of_heap hp2' 2
  have q3 := cell_of_heap hp2' 3
  have q4 := cell_of_heap hp2' 4
  clear hp2'
  unfold reqCells at *
  simp only [List.getElem?_toArray, List.getElem?_cons_zero, List.getElem?_cons_succ] at q0 q1 q2 q3 q4
  unfold restingV at *
  go_wp2_with fail
  refine HK.out.mono ?_
  rintro e w3 ⟨rfl, hu3, hs3⟩
  have HA := hid hans.out
  clear hans HK
  have hcl2 : c < (w1.setCell ⟨c, 0, none⟩ (.iface 53 (.agg #[]))).heap.size := lt_of_heap HB2.out
  have hb3 : w3.heap[c]? = some (.cells #[.iface 53 (.agg #[]), uv, ov] 58 (0, 0)) := hu3.keep HB2.out (by rintro (rfl | rfl); exact hcs rfl; exact hcm rfl)
  have hFar : ∀ v : Value, (∀ k, v.ownBlock = some k → F k) → ∀ k, v.ownBlock = some k → ¬ (k = s ∨ k = m) := by
    rintro v hv k hk (rfl | rfl)
    · exact ds (hv _ hk)
    · exact dm (hv _ hk)
  have ru3 : Row w3 uv x.unread := HRU.out.keep hu3 (hFar uv h.out.fu)
  have ro3 : Row w3 ov x.out := HRO.out.keep hu3 (hFar ov h.out.fo)
  have U3 : Upd (fun k => F k ∨ k = s ∨ k = m) w w3 := (HU2.out.mono (fun k _ h => Or.inl h)).trans (hu3.mono (fun k _ h => Or.inr h))
  have HBa : Hid (∀ W, Upd (fun _ => False) w3 W → Calls Tryz.prog 48 #[ansV a] W fun e w' => ∃ r, e = .returned r ∧ (r = .string ⟨a.bytes.toArray⟩ ∧ Upd (fun _ => False) W w')) := by
    intro W hW
    have hB : Below N w W := by
      have U : Upd (fun k => F k ∨ k = s ∨ k = m) w W := U3.trans (hW.mono (fun _ _ h => h.elim))
      refine U.below hN.out.2.2.2 (fun k hk => ?_)
      rintro (h1 | rfl | rfl)
      · exact absurd (hN.out.1 k h1) (by omega)
      · exact absurd hN.out.2.1 (by omega)
      · exact absurd hN.out.2.2.1 (by omega)
    refine (bytes_any a W (hid (hT.out W hB)) HA.out.1 HA.out.2.1 HA.out.2.2).mono ?_
    rintro e w' ⟨rfl, hu⟩
    exact ⟨_, rfl, rfl, hu⟩
  have hlen := bytes_len a HA.out.1 HA.out.2.1 HA.out.2.2
  have hpos := bytes_pos a
  unfold ansV at *
  go_wp2_with fail
  generalize hn : w3.heap.size = n
  generalize hw4 : w3.alloc (.cells #[.string ⟨a.status.toArray⟩, .int .i64 a.length, .string ⟨a.text.toArray⟩, .bool a.last] 89) = w4
  have U34 : Upd (fun _ => False) w3 w4 := by rw [← hw4]; exact (Upd.refl _ _).alloc _
  have hb4 := U34.keep hb3 (fun h => h)
  have ro4 := ro3.keep U34 (fun _ _ h => h)
  have ru4 := ru3.keep U34 (fun _ _ h => h)
  have hs4 : SrvT w4 S s m cm made dr L' u' := hs3.keep U34 (fun h => h) (fun h => h) (fun h => h)
  have hbn : w4.heap[n]? = some (.cells #[.string ⟨a.status.toArray⟩, .int .i64 a.length, .string ⟨a.text.toArray⟩, .bool a.last] 89 (0, 0)) := by rw [← hw4, ← hn]; exact heap_alloc_new w3 _
  have hnc : n ≠ c := by rw [← hn]; have := lt_of_heap hb3; omega
  have hcl4 := lt_of_heap hb4
  have hnl4 := lt_of_heap hbn
  have hno : ov.ownBlock ≠ some n := ro4.far hbn (by decide)
  have n0 := cell_of_heap hbn 0
  have n1 := cell_of_heap hbn 1
  have n2 := cell_of_heap hbn 2
  have n3 := cell_of_heap hbn 3
  have d2 := cell_of_heap hb4 2
  have U4 : Upd (fun k => F k ∨ k = s ∨ k = m) w w4 := U3.trans (U34.mono (fun _ _ h => h.elim))
  have HBb : Hid (∀ W, Upd (fun _ => False) w4 W → Calls Tryz.prog 48 #[.agg #[.string ⟨a.status.toArray⟩, .int .i64 a.length, .string ⟨a.text.toArray⟩, .bool a.last]] W fun e w' => ∃ r, e = .returned r ∧ (r = .string ⟨a.bytes.toArray⟩ ∧ Upd (fun _ => False) W w')) := fun W hW => HBa.out W (U34.trans hW)
  have HU4 := hid U4
  have HB4 := hid hb4
  have HRO4 := hid ro4
  have HRU4 := hid ru4
  have HS4 := hid hs4
  have HBN := hid hbn
  simp only [List.getElem?_toArray, List.getElem?_cons_zero, List.getElem?_cons_succ] at n0 n1 n2 n3 d2
  clear hu3 hs3 hb3 hFar ru3 ro3 U3 HBa U34 hb4 ro4 ru4 hs4 hbn U4 hw4 hn q0 q1 q2 q3 q4 HB2 HRU HRO HU2 hm hent hsz2 hsz12 hp2 hp3 d0 g0 c0 c1 c2 f0 f1 f2 hcl2
  go_cut [8] (fun v wx => v = .pointer (some ⟨n, 0, none⟩) ∧ Hid (OutAt w4 wx c (.iface 53 (.agg #[])) uv ov (x.out ++ a.bytes)))
  case first =>
    go_region_law (
      (first
        | (refine step_call1 (v := .agg #[.string ⟨a.status.toArray⟩, .int .i64 a.length, .string ⟨a.text.toArray⟩, .bool a.last]) (fun r w' => r = .string ⟨a.bytes.toArray⟩ ∧ Upd (fun _ => False) w4.drew w') rfl (.tmp 34) rfl ent48 (by simp [Act.eval]) (HBb.out w4.drew (Upd.refl _ w4).drew) ?_
           rintro r w5 ⟨rfl, hu5⟩
           have hu5' : Upd (fun _ => False) w4 w5 := (Upd.refl _ w4).drew.trans hu5
           have e2 : w5.cell? ⟨c, 2, none⟩ = some ov := (hu5'.cell hcl4 (fun h => h)).trans d2
           have HR5 := hid (HRO4.out.keep hu5' (fun _ _ h => h))
           have HU5 := hid hu5'
           clear hu5 hu5')
        | (refine step_append_str rfl (.tmp 33) (.tmp 35) rfl ov x.out (by simp [Act.eval]) HR5.out a.bytes (by simp [Act.eval]) hpos (by omega) ?_
           intro v6 w6 r1 r2 r3
           have hc6 : w6.heap[c]? = some (.cells #[.iface 53 (.agg #[]), uv, ov] 58 (0, 0)) := ((HU5.out.mono (M' := fun k => ov.ownBlock = some k) (fun _ _ h => h.elim)).grown r2 (fun k _ h => h)).keep HB4.out (HRO4.out.far HB4.out (by decide))
           have g2 : w6.frozen? ⟨c, 2, none⟩ = false := unfrozen_of_heap hc6 2
           have h2 : w6.cell? ⟨c, 2, none⟩ = some ov := cell_of_heap hc6 2
           obtain ⟨g, cap2, hv2⟩ : ∃ g cap2, v6 = .slice (some ⟨g, 0, none⟩) (x.out.length + a.bytes.length) cap2 := by
             rcases r1.form with ⟨_, h1⟩ | ⟨g, cap, h1⟩
             · exact absurd (List.append_eq_nil_iff.1 h1).2 hpos
             · exact ⟨g, cap, by simpa using h1⟩
           subst hv2
           have HF := hid (out_stored HB4.out HRO4.out HU5.out r1 r2 r3)
           clear r1 r2 r3 hc6)))
    all_goals
      go_wp2_with fail
      go_meet
      exact ⟨rfl, HF⟩
  case rest =>
    obtain ⟨rfl, ho⟩ := hcut
    obtain ⟨ov', o1, o2, o3, o4⟩ := ho.out
    have n3' : wc.cell? ⟨n, 3, none⟩ = some (.bool a.last) := (o3.cell hnl4 (by rintro (h1 | h1); exact hnc h1; exact hno h1)).trans n3
    have p0 := cell_of_heap o2 0
    have p0' := unfrozen_of_heap o2 0
    have HO := hid (And.intro o1 (And.intro o2 (And.intro o3 o4)))
    clear o1 o2 o3 o4 ho n0 n1 n2 n3 d2
    cases hl : a.last
    · rw [hl] at n3' hkd
      go_wp2_with fail
      subst hkd
      exact bodyPost_end (v := .tuple #[]) (by simp [results, Tryz.results32, go_sem]) rfl ⟨rfl, answered h HU4 HB4 HRU4 HS4 HO.out.1 HO.out.2.1 HO.out.2.2.1 HO.out.2.2.2 (Or.inl ⟨rfl, rfl⟩) rfl dS ds dm⟩
    · rw [hl] at n3' hkd
      go_wp2_with fail
      subst hkd
      exact bodyPost_end (v := .tuple #[]) (by simp [results, Tryz.results32, go_sem]) rfl ⟨rfl, answered_last h HU4 HB4 HRU4 HS4 HO.out.1 HO.out.2.1 HO.out.2.2.1 HO.out.2.2.2 rfl rfl dS ds dm⟩

end Go.Proofs.YtkhlhokolfaieaaGreatDoor
