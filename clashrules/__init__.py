"""What doesn't go together: which answers to several questions may stand beside one another."""
