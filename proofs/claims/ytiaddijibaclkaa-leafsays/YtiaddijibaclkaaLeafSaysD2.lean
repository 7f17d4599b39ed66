/- quirlaw.LeafSays, a part of it, walked. Behind all calls: a page that is not right; what Free and Text say. -/
import Derived.Test.YtiaddijibaclkaaLeafSaysD3
namespace Go.Proofs.Ytiaddijibaclkaa.PLeaf
open Go Go.RowKit
set_option maxRecDepth 100000

set_option maxHeartbeats 8000000 in
theorem tail11 {x0 x3 x5 x6 x7 x8 x21 x22 x23 x24 x25 x26 x27 x28 x29 x30 x31 x32 x33 x34 x35 x36 x37 x38 x39 x40 x41 x42 x43 x44 x45 x46 x47 x48 x49 x50 x51 x52 x53 x54 x55 x56 x57 x58 x59 x60 x61 x62 x63 x64 x65 x66 x67 x68 x69 x70 x71 x72 x73 x74 x75 x76 x77 x78 x79 x80 x81 x82 x83 x84 x85 x86 x87 x88 x89 x90 x91 x92 x93 x94 x95 x96 x97 x98 x99 x100 x101 x102 x103 x104 x105 x106 x107 x108 x109 x110 x111 x112 x113 x114 x115 x116 x117 x118 x119 x120 x121 x122 x123 x124 x125 x126 x127 x128 x129 x130 x131 x132 x133 x134 x135 x136 x137 x138 x139 x140 x141 x142 x143 x144 x145 x146 x147 x148 x149 x150 x151 x152 x153 x154 x155 x156 x157 x158 x159 x160 x161 x162 x163 x164 x165 x166 x167 x168 x169 x170 x171 x172 x173 x174 x175 x176 x177 x178 x179 x180 x181 x182 x183 x184 x185 x186 x187 x188 x189 x190 x191 x192 x193 x194 x195 x196 x197 x198 x199 x200 x201 x202 x203 x204 x205 x206 x207 x208 x209 x210 x211 x212 x213 x214 x215 x216 x217 x218 x219 x220 x221 x222 x223 x224 x225 x226 x227 x228 x229 x230 x231 x232 x233 x234 x235 x236 x237 x238 x239 x240 x241 x242 x243 x244 x245 x246 x247 x248 x249 x250 x251 x252 x253 x254 x255 x256 x257 x258 x259 x260 x261 x262 x263 x264 x265 x266 x267 x268 x269 x270 x271 x272 x273 x274 x275 x276 x277 x278 x279 x280 x281 x282 x283 x284 x285 x286 x287 x288 x289 x290 x291 x292 x293 x294 x295 x296 x297 x298 x299 x300 x301 x302 x303 x304 x305 x306 x307 x308 : Value}
    (w W : World) (a : Option Addr) (c : Nat) (X : List Lf.Sl) (qb rb : Nat) (aq : Option Addr) (cq : Nat) (Q : List Lf.Sl) (ar : Option Addr) (cr : Nat) (D : List Lf.Sl) (h : PgIn w a X) (B8 : Below (w.alloc (.cells #[.slice a X.length c] 73)).heap.size (w.alloc (.cells #[.slice a X.length c] 73)) W) (Q8 : Bxd W qb (.slice aq Q.length cq)) (A8 : PgAt W aq Q) (R8 : Bxd W rb (.slice ar D.length cr)) (D8 : PgAt W ar D) (t : ByteArray) (ht : t.size ≤ 140737488355328) (k : Int) (CX FR P2 P3 G2 D2 : Nat) (G1 TX : ByteArray) (HCX : Hid (CX = Lf.check X)) (HP : Hid ((Q, P2, P3) = Lf.put X t)) (HD : Hid ((D, D2) = Lf.drop X k)) (HG : Hid ((G1, G2) = Lf.get X k)) (HTX : Hid (TX = Lf.text X)) (HFR : Hid (FR = Lf.free X)) (hDl : D.length ≤ 40) :
    Code.wp Try.prog (fromR 11 (Try.f7.body.getD .skip)) (bodyPost Try.prog Try.f7 fun e w' => e = .returned (.bool true) ∧ Below w.heap.size w w') ⟨List.toArray (x0 :: (.string t) :: (.int .i64 k) :: x3 :: (.pointer (some ⟨w.heap.size, 0, none⟩)) :: x5 :: x6 :: x7 :: x8 :: (.int .i64 (CX : Int)) :: (.int .i64 (FR : Int)) :: (.int .i64 (CX : Int)) :: (.pointer (some ⟨qb, 0, none⟩)) :: (.int .i64 (P2 : Int)) :: (.int .i64 (P3 : Int)) :: (.string G1) :: (.int .i64 (G2 : Int)) :: (.pointer (some ⟨rb, 0, none⟩)) :: (.int .i64 (D2 : Int)) :: (.string TX) :: (.int .i64 (CX : Int)) :: x21 :: x22 :: x23 :: x24 :: x25 :: x26 :: x27 :: x28 :: x29 :: x30 :: x31 :: x32 :: x33 :: x34 :: x35 :: x36 :: x37 :: x38 :: x39 :: x40 :: x41 :: x42 :: x43 :: x44 :: x45 :: x46 :: x47 :: x48 :: x49 :: x50 :: x51 :: x52 :: x53 :: x54 :: x55 :: x56 :: x57 :: x58 :: x59 :: x60 :: x61 :: x62 :: x63 :: x64 :: x65 :: x66 :: x67 :: x68 :: x69 :: x70 :: x71 :: x72 :: x73 :: x74 :: x75 :: x76 :: x77 :: x78 :: x79 :: x80 :: x81 :: x82 :: x83 :: x84 :: x85 :: x86 :: x87 :: x88 :: x89 :: x90 :: x91 :: x92 :: x93 :: x94 :: x95 :: x96 :: x97 :: x98 :: x99 :: x100 :: x101 :: x102 :: x103 :: x104 :: x105 :: x106 :: x107 :: x108 :: x109 :: x110 :: x111 :: x112 :: x113 :: x114 :: x115 :: x116 :: x117 :: x118 :: x119 :: x120 :: x121 :: x122 :: x123 :: x124 :: x125 :: x126 :: x127 :: x128 :: x129 :: x130 :: x131 :: x132 :: x133 :: x134 :: x135 :: x136 :: x137 :: x138 :: x139 :: x140 :: x141 :: x142 :: x143 :: x144 :: x145 :: x146 :: x147 :: x148 :: x149 :: x150 :: x151 :: x152 :: x153 :: x154 :: x155 :: x156 :: x157 :: x158 :: x159 :: x160 :: x161 :: x162 :: x163 :: x164 :: x165 :: x166 :: x167 :: x168 :: x169 :: x170 :: x171 :: x172 :: x173 :: x174 :: x175 :: x176 :: x177 :: x178 :: x179 :: x180 :: x181 :: x182 :: x183 :: x184 :: x185 :: x186 :: x187 :: x188 :: x189 :: x190 :: x191 :: x192 :: x193 :: x194 :: x195 :: x196 :: x197 :: x198 :: x199 :: x200 :: x201 :: x202 :: x203 :: x204 :: x205 :: x206 :: x207 :: x208 :: x209 :: x210 :: x211 :: x212 :: x213 :: x214 :: x215 :: x216 :: x217 :: x218 :: x219 :: x220 :: x221 :: x222 :: x223 :: x224 :: x225 :: x226 :: x227 :: x228 :: x229 :: x230 :: x231 :: x232 :: x233 :: x234 :: x235 :: x236 :: x237 :: x238 :: x239 :: x240 :: x241 :: x242 :: x243 :: x244 :: x245 :: x246 :: x247 :: x248 :: x249 :: x250 :: x251 :: x252 :: x253 :: x254 :: x255 :: x256 :: x257 :: x258 :: x259 :: x260 :: x261 :: x262 :: x263 :: x264 :: x265 :: x266 :: x267 :: x268 :: x269 :: x270 :: x271 :: x272 :: x273 :: x274 :: x275 :: x276 :: x277 :: x278 :: x279 :: x280 :: x281 :: x282 :: x283 :: x284 :: x285 :: x286 :: x287 :: x288 :: x289 :: x290 :: x291 :: x292 :: x293 :: x294 :: x295 :: x296 :: x297 :: x298 :: x299 :: x300 :: x301 :: x302 :: x303 :: x304 :: x305 :: x306 :: x307 :: x308 :: []), []⟩ W := by
  conv => arg 2; whnf
  have hCl : CX ≤ 8 := by rw [HCX.out]; exact Lf.check_le X
  have hbx := bx W (.cells #[.slice none 0 0] 73)
  have L0 : Hid (LS w (W.alloc (.cells #[.slice none 0 0] 73)) a c X qb rb W.heap.size aq cq Q ar cr D) :=
    ⟨below_tr (bx _ _) (below_tr B8 hbx), (Bxd.new w (.slice a X.length c)).keep (below_tr B8 hbx), Q8.keep hbx, R8.keep hbx, Bxd.new W _, h.below (below_tr (bx _ _) (below_tr B8 hbx)), A8.below hbx, D8.below hbx⟩
  clear hbx B8 Q8 R8 A8 D8 h
  by_cases hc : CX = 0
  · subst hc
    have hcx : Lf.check X = 0 := HCX.out.symm
    have e1 : TX = Lf.mk (Lf.bytes X) := by rw [HTX.out]; unfold Lf.text; rw [if_pos hcx]
    have e2 : (FR : Int) = 512 - (TX.size : Int) := by
      rw [HFR.out, e1, Lf.mk_len]
      unfold Lf.free
      rw [if_pos hcx]
      have := (Lf.check_ok hcx).2.2.2
      show ((512 - Lf.size X : Nat) : Int) = 512 - ((Lf.size X : Nat) : Int)
      omega
    have hts : (TX.size : Int) ≤ 512 := by
      rw [e1, Lf.mk_len]
      have := (Lf.check_ok hcx).2.2.2
      have h1 : (Lf.bytes X).length = Lf.size X := rfl
      omega
    have KTx := hid fun W (hW : PgIn W a X) => refText_any W a c X hW.at_ (by have := (Lf.check_ok hcx).1; omega) hW.txs (Lf.check_ok hcx).2.1
    rw [← e1] at KTx
    have hfr : ((FR : Int) != 512 - (TX.size : Int)) = false := by rw [e2]; simp
    have htt := str_same (rfl : TX = TX)
    have hcX := hid hcx
    have c4 := L0.out.p.cell
    clear HTX HFR e1 e2 hcx HCX
    go_wp2_with fail
    refine (KTx.out _ L0.out.inp).mono ?_
    rintro r w11 ⟨rfl, hb⟩
    have L1 := hid (L0.out.keep hb)
    replace c4 := L1.out.p.cell
    clear hb L0
    go_wp2_with fail
    refine (KTx.out _ L1.out.inp).mono ?_
    rintro r w12 ⟨rfl, hb⟩
    have L2 := hid (L1.out.keep hb)
    clear hb L1 KTx c4
    go_upto_if 165 with fail
    go_cut [] from 94 to 165 (fun wx => wx = w12)
    case first =>
      go_wp2_with fail
      go_meet
      case rel => exact rfl
    case rest =>
      subst hcut
      apply_assumption
      exact tail16 w _ a c X qb rb _ aq cq Q ar cr D L2.out t ht P2 P3 HP.out k G1 G2 D2 hcX.out HG.out HD.out hDl
  · have hne : ((CX : Int) != 0) = true := by simp; omega
    have hcx : Lf.check X ≠ 0 := by rw [← HCX.out]; exact hc
    have eP : (Q, P2, P3) = ([], 0, CX) := by rw [HP.out, HCX.out]; unfold Lf.put; rw [if_neg hcx]
    have eG : (G1, G2) = (Lf.nob, CX) := by rw [HG.out, HCX.out]; unfold Lf.get; rw [if_neg hcx]
    have eD : (D, D2) = ([], CX) := by
      rw [HD.out, HCX.out]
      have e : Lf.get X k = (Lf.nob, Lf.check X) := by unfold Lf.get; rw [if_neg hcx]
      unfold Lf.drop
      rw [e, if_neg hcx]
    have eT : TX = Lf.nob := by rw [HTX.out]; unfold Lf.text; rw [if_neg hcx]
    have eF : FR = 0 := by rw [HFR.out]; unfold Lf.free; rw [if_neg hcx]
    simp only [Prod.mk.injEq] at eP eG eD
    obtain ⟨rfl, rfl, rfl⟩ := eP
    obtain ⟨rfl, rfl⟩ := eG
    obtain ⟨rfl, rfl⟩ := eD
    subst eT eF
    unfold Lf.nob at *
    have q0 := L0.out.q.cell
    have n0 := L0.out.n.cell
    have KSame := hid fun W a1 a2 c1 c2 (Y : List Lf.Sl) (h1 : PgAt W a1 Y) (h2 : PgAt W a2 Y) (hY : Y.length ≤ 41) => same_any W a1 a2 c1 c2 Y Y h1 h2 (by omega) (by omega)
    clear HP HG HD HTX HFR HCX hcx
    go_wp2_with fail
    refine (KSame.out _ aq none cq 0 [] L0.out.qa (PgAt.nil _ _) (by simp)).mono ?_
    rintro r w11 ⟨q, rfl, hq, hb⟩
    obtain rfl : q = true := by simpa using hq
    have L1 := hid (L0.out.keep hb)
    have r1 := L1.out.r.cell
    have n1 := L1.out.n.cell
    clear hb hq L0 q0 n0
    go_wp2_with fail
    refine (KSame.out _ ar none cr 0 [] L1.out.ra (PgAt.nil _ _) (by simp)).mono ?_
    rintro r w12 ⟨q, rfl, hq, hb⟩
    obtain rfl : q = true := by simpa using hq
    have L2 := hid (L1.out.keep hb)
    clear hb hq L1 r1 n1
    go_wp2_with fail
    go_ret
    exact ⟨rfl, L2.out.old⟩

