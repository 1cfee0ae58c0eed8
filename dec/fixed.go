package dec

import "cooper/api"

// pattern is bits that all words of a class have alike, with zeros elsewhere, and a word of ones where they are.
type pattern struct{ base, ones uint32 }

// in tells whether a word has these bits.
func (p pattern) in(w uint32) bool { return w&p.ones == p.base }

// fixed is what is fixed of each class, by its number.
var fixed = [api.OpDp3 + 1]pattern{
	api.OpAdr:      {0x10000000, 0x1f000000},
	api.OpAddImm:   {0x11000000, 0x1f800000},
	api.OpLogImm:   {0x12000000, 0x1f800000},
	api.OpMovWide:  {0x12800000, 0x1f800000},
	api.OpBitfield: {0x13000000, 0x1f800000},
	api.OpExtract:  {0x13800000, 0x7fa00000},
	api.OpBCond:    {0x54000000, 0xff000010},
	api.OpB:        {0x14000000, 0x7c000000},
	api.OpCb:       {0x34000000, 0x7e000000},
	api.OpTb:       {0x36000000, 0x7e000000},
	api.OpBr:       {0xd61f0000, 0xfe1ffc1f},
	api.OpExc:      {0xd4000000, 0xff00001c},
	api.OpHint:     {0xd503201f, 0xfffff01f},
	api.OpBar:      {0xd503301f, 0xfffff01f},
	api.OpSysReg:   {0xd5100000, 0xffd00000},
	api.OpMsrImm:   {0xd500401f, 0xfff8f01f},
	api.OpSys:      {0xd5080000, 0xffd80000},
	api.OpLdLit:    {0x18000000, 0x3f000000},
	api.OpPair:     {0x28000000, 0x3c000000},
	api.OpLdImm:    {0x39000000, 0x3f000000},
	api.OpLdIdx:    {0x38000000, 0x3f200000},
	api.OpLdReg:    {0x38200800, 0x3f200c00},
	api.OpEx:       {0x08000000, 0x3f000000},
	api.OpLogReg:   {0x0a000000, 0x1f000000},
	api.OpAddReg:   {0x0b000000, 0x1f200000},
	api.OpAddExt:   {0x0b200000, 0x1fe00000},
	api.OpAdc:      {0x1a000000, 0x1fe0fc00},
	api.OpCcmp:     {0x3a400000, 0x3fe00410},
	api.OpCsel:     {0x1a800000, 0x3fe00800},
	api.OpDp1:      {0x5ac00000, 0x7fff0000},
	api.OpDp2:      {0x1ac00000, 0x7fe00000},
	api.OpDp3:      {0x1b000000, 0x7f000000},
}
